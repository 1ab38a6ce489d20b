import Derived.Test.YtbocpikgochioaaDoorZa
import Derived.Test.YtbocpikgochioaaDoorZb
import Derived.Test.YtbocpikgochioaaDoorZd0
import Derived.Test.YtbocpikgochioaaDoorEngMake
namespace Go.Proofs.YtbocpikgochioaaDoor.Ways
open Go Go.Ex
def plE (x y : Int) : Int := wrapF .i64 (x + y)
theorem wsm {x : Int} (h1 : -1000000000000 ≤ x) (h2 : x ≤ 1000000000000) : wrapF .i64 x = x := wrapF_in (by omega) (by omega)
def fst2 (x y : Int) (k : Int → VT) : VT := .br (!eqF x 0) (k x) (.br (!eqF y 0) (k y) (k 0))
theorem fst2_sel (x y : Int) (k : Int → VT) : (fst2 x y k).sel = (k (firstE x y)).sel := by
  unfold fst2 firstE
  by_cases h1 : x = 0 <;> by_cases h2 : y = 0 <;> simp [VT.sel, eqF_d, h1, h2]
theorem beqI (a b : Int) : (a == b) = decide (a = b) := by
  rw [Bool.eq_iff_iff]; simp
/-! ### the reference -/
end Go.Proofs.YtbocpikgochioaaDoor.Ways
namespace Go.Proofs.YtbocpikgochioaaDoor.Ways
open Go Go.Ex
def sl (b o l k : Nat) : Value := .slice (some ⟨b, o, none⟩) l k
def pt (b o : Nat) : Value := .pointer (some ⟨b, o, none⟩)
def fn (f : Nat) : Value := .func (.func f) #[] #[]
def on_ (l : List (Nat × Nat)) (f d : Nat) : Bool := l.any fun x => Nat.beq x.1 f && Nat.beq x.2 d
def dd4 : List (CO × Bool) := [(.dead, false), (.dead, false), (.dead, false), (.dead, false)]
def gg4 : List (CO × Bool) := [(.cells powers 149 1 true, true), (.dead, false), (.dead, false), (.dead, false)]
noncomputable def B66 : Code := bodyL Tryd.f53 2
noncomputable def T10 : Tb := T1
theorem ts10 {G : Nat} : TSound Tryd.prog G T10 := ts1
noncomputable def spL : Nat → Nat → Split := at_ [(Fn.ref03_CheckRecord, 11), (Fn.ref03_CheckRecord, 20), (Fn.list_Changed_3_int_api_Errno, 14), (Fn.check_First, 8), (Fn.rotor_part, 21), (Fn.ref03_Rotating, 8), (Fn.ref03_Fixed, 8)] .bool sp_
def syL : Nat → Nat → Bool := on_ [(Fn.ref03_CheckRecord, 16), (Fn.ref03_CheckRecord, 17), (Fn.list_Changed_3_int_api_Errno, 10), (Fn.list_Changed_3_int_api_Errno, 16), (Fn.list_Changed_3_int_api_Errno, 17), (Fn.list_Changed_3_int_api_Errno, 23), (Fn.list_Changed_3_int_api_Errno, 100023), (Fn.check_First, 9), (Fn.check_First, 10), (Fn.rotor_part, 23), (Fn.rotor_part, 24), (Fn.ref03_Rotating, 14), (Fn.ref03_Rotating, 15), (Fn.ref03_Fixed, 14), (Fn.ref03_Fixed, 15)]
noncomputable def spL' : Nat → Nat → Split := at_ [(Fn.ref03_CheckRecord, 7), (Fn.rotor_checkRecord, 5), (Fn.rotor_part, 15)] .bool spL
noncomputable def CL : Cfg := ⟨T10, spL, syL, noL⟩
end Go.Proofs.YtbocpikgochioaaDoor.Ways
namespace Go.Proofs.YtbocpikgochioaaDoor.Ways
open Go Go.Ex
def hpA (hd : List (CO × Bool)) (cs : List Value) (t s : Nat) (ex : Bool) : List (CO × Bool) := hd ++ [(.cells cs t s ex, true)]
theorem next_i {j n : Nat} (hj : j < n) (hn : n ≤ 1000000) : i (wrapF .i64 ((j : Int) + 1)) = i (((j + 1 : Nat) : Int)) := by
  rw [wrapF_in (by omega) (by omega)]; rfl
theorem ltT {j n : Nat} (hj : j < n) : ltF (j : Int) (n : Int) = true := by rw [ltF_eq]; simp; omega
theorem ltN (n : Nat) : ltF (n : Int) (n : Int) = false := by rw [ltF_eq]; simp
theorem inT {j n : Nat} (hj : j < n) : (leF 0 (j : Int) && (ltF (j : Int) (n : Int) && decide (n ≤ n))) = true := by
  rw [ltT hj, leF_eq]; simp
theorem flatP : powers.all Ex.flat = true := by kernel_rfl
theorem flat_dd {cs : List Value} {t s : Nat} {ex : Bool} (hf : cs.all Ex.flat = true) : ∀ o, (o, true) ∈ hpA dd4 cs t s ex → FlatO o := by
  intro o ho
  simp [hpA, dd4] at ho
  subst ho
  exact fun x hx => List.all_eq_true.1 hf x hx
theorem tsL {G : Nat} : TSound Tryd.prog G CL.T := ts10
theorem lsL {G : Nat} : LSound Tryd.prog G CL.L := .none

/-! ### the reference's check of a record -/
section
variable {cs : List Value} {t s : Nat} {ex : Bool} {n : Nat}
/-- two ends of a loop -/
def two_ends (e : Int) (x : CX) (tmF tmR : TM) (H : CH) : Out QRes := .br (decide (e = 0)) (.leaf (.ex x tmF H [])) (.leaf (.ex .ret tmR H []))
theorem two_ends_sel {e : Int} {x : CX} {tmF tmR : TM} {H : CH} {r : QRes} {p : Res → Prop} (h : (two_ends e x tmF tmR H).sel = some r) (h1 : e = 0 → p (.ex x (absT tmF) H [])) (h2 : e ≠ 0 → p (.ex .ret (absT tmR) H [])) : p r.abs := by
  unfold two_ends at h
  have h' : cond (decide (e = 0)) (some (QRes.ex x tmF H [])) (some (QRes.ex .ret tmR H [])) = some r := h
  by_cases he : e = 0
  · rw [decide_eq_true he] at h'
    cases h'
    exact h1 he
  · rw [decide_eq_false he] at h'
    cases h'
    exact h2 he
end
end Go.Proofs.YtbocpikgochioaaDoor.Ways
namespace Go.Proofs.YtbocpikgochioaaDoor.Ways
open Go Go.Ex
/-! ### check.First, for every list -/
def eIE (es : List Value) (j : Nat) : Int := intO es[0 + j * 1]?
def st66 (n c j : Nat) : List (Nat × Value) := [(5, sl 4 0 n c), (6, i (n : Int)), (7, i (j : Int))]
def OkI (es : List Value) (n c : Nat) : Prop := es.all Ex.flat = true ∧ (∀ j, j < n → isCellB (.i .i64) es[0 + j * 1]? = true) ∧ n ≤ c ∧ n ≤ 1000000
section
variable {cs : List Value} {t s : Nat} {ex : Bool} {n c : Nat}
theorem inTc {j : Nat} (hj : j < n) (hc : n ≤ c) : (leF 0 (j : Int) && (ltF (j : Int) (n : Int) && decide (n ≤ c))) = true := by
  rw [ltT hj, leF_eq]; simp [hc]
theorem f66_round (h : OkI cs n c) (j : Nat) (ro : Option Nat) (hj : j < n) (he : eIE cs j = 0) :
    ∃ tm1 H1, Sound Tryd.prog 5 (.code B66 ro (absT (tmL 15 (st66 n c j))) (heapL ((hpA dd4 cs t s ex).map (·.1))) []) (.ex .normal tm1 H1 []) ∧ Restate 5 tm1 H1 (absT (tmL 15 (st66 n c (j + 1)))) (heapL ((hpA dd4 cs t s ex).map (·.1))) := by
  have h := round_of (P := Tryd.prog) (G := 5) (C := CL) (n := 30) (f := Fn.check_First) (b := B66) (ro := ro) (tm := tmL 15 (st66 n c j)) (H := heapL ((hpA dd4 cs t s ex).map (·.1))) (df := []) (df1 := []) (k := 5) (N := 15) (len := 5) (x := .normal) (List.range 5) [(5, sl 4 0 n c), (6, i (n : Int)), (7, i (wrapF .i64 ((j : Int) + 1)))] (hpA dd4 cs t s ex) [true, true, true, false]
    [ltF j n, (leF 0 (j : Int) && (ltF j n && decide (n ≤ c))), isCellB (.i .i64) cs[0 + j * 1]?, !eqF (eIE cs j) 0] tsL lsL (by kernel_rfl) (by kernel_rfl) (by rw [inTc hj h.2.2.1, ltT hj, h.2.1 j hj, he]; rfl) (by kernel_rfl) (flat_dd h.1)
  rw [next_i hj ‹OkI cs n c›.2.2.2] at h
  exact h
theorem f66_ret (h : OkI cs n c) (j : Nat) (ro : Option Nat) (hj : j < n) (he : eIE cs j ≠ 0) :
    ∃ tm1 H1, Sound Tryd.prog 5 (.code B66 ro (absT (tmL 15 (st66 n c j))) (heapL ((hpA dd4 cs t s ex).map (·.1))) []) (.ex .ret tm1 H1 []) ∧ Restate 5 tm1 H1 (absT (tmL 15 [(2, i (eIE cs j))])) (heapL ((hpA dd4 cs t s ex).map (·.1))) :=
  round_of (P := Tryd.prog) (G := 5) (C := CL) (n := 30) (f := Fn.check_First) (b := B66) (ro := ro) (tm := tmL 15 (st66 n c j)) (H := heapL ((hpA dd4 cs t s ex).map (·.1))) (df := []) (df1 := []) (k := 5) (N := 15) (len := 5) (x := .ret) (List.range 5) [(2, i (eIE cs j))] (hpA dd4 cs t s ex) [true, true, true, true]
    [ltF j n, (leF 0 (j : Int) && (ltF j n && decide (n ≤ c))), isCellB (.i .i64) cs[0 + j * 1]?, !eqF (eIE cs j) 0] tsL lsL (by kernel_rfl) (by kernel_rfl) (by rw [inTc hj h.2.2.1, ltT hj, h.2.1 j hj, eqF_d, decide_eq_false he]; rfl) (by kernel_rfl) (flat_dd h.1)
theorem f66_end (hf : cs.all Ex.flat = true) (ro : Option Nat) :
    ∃ tm1 H1, Sound Tryd.prog 5 (.code B66 ro (absT (tmL 15 (st66 n c n))) (heapL ((hpA dd4 cs t s ex).map (·.1))) []) (.ex (.exit 0) tm1 H1 []) ∧ Restate 5 tm1 H1 (absT (tmL 15 [])) (heapL ((hpA dd4 cs t s ex).map (·.1))) :=
  round_of (P := Tryd.prog) (G := 5) (C := CL) (n := 30) (f := Fn.check_First) (b := B66) (ro := ro) (tm := tmL 15 (st66 n c n)) (H := heapL ((hpA dd4 cs t s ex).map (·.1))) (df := []) (df1 := []) (k := 5) (N := 15) (len := 5) (x := .exit 0) (List.range 5) [] (hpA dd4 cs t s ex) [false]
    [ltF n n] tsL lsL (by kernel_rfl) (by kernel_rfl) (by rw [ltN]; rfl) (by kernel_rfl) (flat_dd hf)
variable (cs t s ex n c) in
noncomputable def L66 : LTab := loopE noL Fn.check_First 2 15 5 B66 (st66 n c 0) (hpA dd4 cs t s ex) (two_ends (firstF (eIE cs) n 0) (.exit 0) (tmL 15 []) (tmL 15 [(2, i (firstF (eIE cs) n 0))]) (heapL ((hpA dd4 cs t s ex).map (·.1))))
theorem ls66 (h : OkI cs n c) : LSound Tryd.prog 5 (L66 cs t s ex n c) := by
  refine LSound.loop .none (by kernel_rfl) (flat_dd h.1) fun r hr ro tm0 H0 hk hst => ?_
  obtain ⟨g1, g2⟩ := first_loop (P := Tryd.prog) (G := 5) (b := B66) (N := 15) (k := 5) (st := st66 n c) (hp := hpA dd4 cs t s ex) (lF := []) (lR := fun e => [(2, i e)]) (x := .exit 0) n (eIE cs) (fun h => by cases h)
    (fun j ro hj he => f66_round h j ro hj he) (fun j ro hj he => f66_ret h j ro hj he) (f66_end h.1) ro hk (Nat.le_refl _) hst
  exact two_ends_sel (p := fun r => Sound Tryd.prog 5 (.code (.loop B66) ro tm0 H0 []) r) hr g1 g2
theorem f66_small (h : OkI cs n c) :
    ∃ H', Sound Tryd.prog 5 (.call Fn.check_First ⟨[sl 4 0 n c]⟩ (small1 (.cells cs t s ex))) (.val (i (firstF (eIE cs) n 0)) H') := by
  let C : Cfg := ⟨T10, spL', syL, L66 cs t s ex n c⟩
  obtain ⟨H', hs⟩ := Out.vals_sel (o := execO Tryd.prog 5 C 30 (.call Fn.check_First ⟨[sl 4 0 n c]⟩ (small1 (.cells cs t s ex)))) (v := i (firstF (eIE cs) n 0)) (by kernel_rfl) (by
    rw [show (execO Tryd.prog 5 C 30 (.call Fn.check_First ⟨[sl 4 0 n c]⟩ (small1 (.cells cs t s ex)))).vals = .br (decide (firstF (eIE cs) n 0 = 0)) (.leaf (i 0)) (.leaf (i (firstF (eIE cs) n 0))) from by kernel_rfl]
    by_cases h : firstF (eIE cs) n 0 = 0 <;> simp [VT.sel, h])
  exact ⟨H', execO_sound (C := C) ts10 (ls66 h) 30 _ _ hs⟩
end

/-! ### list.Changed, of the checks -/
section
variable {cs : List Value} {t s : Nat} {ex : Bool} {n : Nat}
end
end Go.Proofs.YtbocpikgochioaaDoor.Ways
namespace Go.Proofs.YtbocpikgochioaaDoor.Ways
open Go Go.Ex
/-! ### lists of numbers -/
noncomputable def B16 : Code := bodyL Tryd.f47 2
noncomputable def B127 : Code := bodyL Tryd.f54 3
def bfE (cs : List Value) : Nat → Int
  | 0 => 0
  | j + 1 => eIE cs j
def riE (cs : List Value) (m : Int) (j : Nat) : Int := if rangeE (eIE cs j) 0 m ≠ 0 then rangeE (eIE cs j) 0 m else if eIE cs j < bfE cs j then 11 else 0
def spA : Nat → Nat → Split := at_ [(Fn.ref01_First, 7), (Fn.ref01_First, 14), (Fn.check_Rising, 12), (Fn.check_Rising, 19), (Fn.check_Rising, 23)] .bool no_
def syA : Nat → Nat → Bool := on_ [(Fn.ref01_First, 12), (Fn.ref01_First, 13), (Fn.ref01_First, 17), (Fn.ref01_First, 18), (Fn.check_Rising, 13), (Fn.check_Rising, 14)]
noncomputable def CA : Cfg := ⟨T1, spA, syA, noL⟩
theorem tsA {G : Nat} : TSound Tryd.prog G CA.T := ts1
theorem lsA {G : Nat} : LSound Tryd.prog G CA.L := .none
def st16 (n c j : Nat) : List (Nat × Value) := [(0, sl 4 0 n c), (3, i (j : Int))]
def st127 (cs : List Value) (n c : Nat) (m : Int) (j : Nat) : List (Nat × Value) := [(1, i m), (5, i (bfE cs j)), (9, sl 4 0 n c), (10, i (n : Int)), (11, i (j : Int))]
section
variable {cs : List Value} {t s : Nat} {ex : Bool} {n c : Nat}
theorem f16_round (h : OkI cs n c) (j : Nat) (ro : Option Nat) (hj : j < n) (he : eIE cs j = 0) :
    ∃ tm1 H1, Sound Tryd.prog 5 (.code B16 ro (absT (tmL 19 (st16 n c j))) (heapL ((hpA dd4 cs t s ex).map (·.1))) []) (.ex .normal tm1 H1 []) ∧ Restate 5 tm1 H1 (absT (tmL 19 (st16 n c (j + 1)))) (heapL ((hpA dd4 cs t s ex).map (·.1))) := by
  have h := round_of (P := Tryd.prog) (G := 5) (C := CA) (n := 30) (f := Fn.ref01_First) (b := B16) (ro := ro) (tm := tmL 19 (st16 n c j)) (H := heapL ((hpA dd4 cs t s ex).map (·.1))) (df := []) (df1 := []) (k := 5) (N := 19) (len := 5) (x := .normal) (List.range 5) [(0, sl 4 0 n c), (3, i (wrapF .i64 ((j : Int) + 1)))] (hpA dd4 cs t s ex) [true, true, true, false]
    [ltF j n, (leF 0 (j : Int) && (ltF j n && decide (n ≤ c))), isCellB (.i .i64) cs[0 + j * 1]?, !eqF (eIE cs j) 0] tsA lsA (by kernel_rfl) (by kernel_rfl) (by rw [inTc hj h.2.2.1, ltT hj, h.2.1 j hj, he]; rfl) (by kernel_rfl) (flat_dd h.1)
  rw [next_i hj ‹OkI cs n c›.2.2.2] at h
  exact h
theorem f16_ret (h : OkI cs n c) (j : Nat) (ro : Option Nat) (hj : j < n) (he : eIE cs j ≠ 0) :
    ∃ tm1 H1, Sound Tryd.prog 5 (.code B16 ro (absT (tmL 19 (st16 n c j))) (heapL ((hpA dd4 cs t s ex).map (·.1))) []) (.ex .ret tm1 H1 []) ∧ Restate 5 tm1 H1 (absT (tmL 19 [(2, i (eIE cs j))])) (heapL ((hpA dd4 cs t s ex).map (·.1))) :=
  round_of (P := Tryd.prog) (G := 5) (C := CA) (n := 30) (f := Fn.ref01_First) (b := B16) (ro := ro) (tm := tmL 19 (st16 n c j)) (H := heapL ((hpA dd4 cs t s ex).map (·.1))) (df := []) (df1 := []) (k := 5) (N := 19) (len := 5) (x := .ret) (List.range 5) [(2, i (eIE cs j))] (hpA dd4 cs t s ex) [true, true, true, true, true, true]
    [ltF j n, (leF 0 (j : Int) && (ltF j n && decide (n ≤ c))), isCellB (.i .i64) cs[0 + j * 1]?, !eqF (eIE cs j) 0, (leF 0 (j : Int) && (ltF j n && decide (n ≤ c))), isCellB (.i .i64) cs[0 + j * 1]?] tsA lsA (by kernel_rfl) (by kernel_rfl) (by rw [inTc hj h.2.2.1, ltT hj, h.2.1 j hj, eqF_d, decide_eq_false he]; rfl) (by kernel_rfl) (flat_dd h.1)
theorem f16_end (hf : cs.all Ex.flat = true) (ro : Option Nat) :
    ∃ tm1 H1, Sound Tryd.prog 5 (.code B16 ro (absT (tmL 19 (st16 n c n))) (heapL ((hpA dd4 cs t s ex).map (·.1))) []) (.ex (.exit 0) tm1 H1 []) ∧ Restate 5 tm1 H1 (absT (tmL 19 [])) (heapL ((hpA dd4 cs t s ex).map (·.1))) :=
  round_of (P := Tryd.prog) (G := 5) (C := CA) (n := 30) (f := Fn.ref01_First) (b := B16) (ro := ro) (tm := tmL 19 (st16 n c n)) (H := heapL ((hpA dd4 cs t s ex).map (·.1))) (df := []) (df1 := []) (k := 5) (N := 19) (len := 5) (x := .exit 0) (List.range 5) [] (hpA dd4 cs t s ex) [false]
    [ltF n n] tsA lsA (by kernel_rfl) (by kernel_rfl) (by rw [ltN]; rfl) (by kernel_rfl) (flat_dd hf)
variable (cs t s ex n c) in
noncomputable def L16 : LTab := loopE noL Fn.ref01_First 2 19 5 B16 (st16 n c 0) (hpA dd4 cs t s ex) (two_ends (firstF (eIE cs) n 0) (.exit 0) (tmL 19 []) (tmL 19 [(2, i (firstF (eIE cs) n 0))]) (heapL ((hpA dd4 cs t s ex).map (·.1))))
theorem ls16 (h : OkI cs n c) : LSound Tryd.prog 5 (L16 cs t s ex n c) := by
  refine LSound.loop .none (by kernel_rfl) (flat_dd h.1) fun r hr ro tm0 H0 hk hst => ?_
  obtain ⟨g1, g2⟩ := first_loop (P := Tryd.prog) (G := 5) (b := B16) (N := 19) (k := 5) (st := st16 n c) (hp := hpA dd4 cs t s ex) (lF := []) (lR := fun e => [(2, i e)]) (x := .exit 0) n (eIE cs) (fun h => by cases h)
    (fun j ro hj he => f16_round h j ro hj he) (fun j ro hj he => f16_ret h j ro hj he) (f16_end h.1) ro hk (Nat.le_refl _) hst
  exact two_ends_sel (p := fun r => Sound Tryd.prog 5 (.code (.loop B16) ro tm0 H0 []) r) hr g1 g2
theorem f16_small (h : OkI cs n c) :
    ∃ H', Sound Tryd.prog 5 (.call Fn.ref01_First ⟨[sl 4 0 n c]⟩ (small1 (.cells cs t s ex))) (.val (i (firstF (eIE cs) n 0)) H') := by
  let C : Cfg := ⟨T1, spA, syA, L16 cs t s ex n c⟩
  obtain ⟨H', hs⟩ := Out.vals_sel (o := execO Tryd.prog 5 C 30 (.call Fn.ref01_First ⟨[sl 4 0 n c]⟩ (small1 (.cells cs t s ex)))) (v := i (firstF (eIE cs) n 0)) (by kernel_rfl) (by
    rw [show (execO Tryd.prog 5 C 30 (.call Fn.ref01_First ⟨[sl 4 0 n c]⟩ (small1 (.cells cs t s ex)))).vals = .br (decide (firstF (eIE cs) n 0 = 0)) (.leaf (i 0)) (.leaf (i (firstF (eIE cs) n 0))) from by kernel_rfl]
    by_cases h : firstF (eIE cs) n 0 = 0 <;> simp [VT.sel, h])
  exact ⟨H', execO_sound (C := C) ts1 (ls16 h) 30 _ _ hs⟩
theorem f127_round (h : OkI cs n c) (m : Int) (j : Nat) (ro : Option Nat) (hj : j < n) (he : riE cs m j = 0) :
    ∃ tm1 H1, Sound Tryd.prog 5 (.code B127 ro (absT (tmL 26 (st127 cs n c m j))) (heapL ((hpA dd4 cs t s ex).map (·.1))) []) (.ex .normal tm1 H1 []) ∧ Restate 5 tm1 H1 (absT (tmL 26 (st127 cs n c m (j + 1)))) (heapL ((hpA dd4 cs t s ex).map (·.1))) := by
  have he1 : rangeE (eIE cs j) 0 m = 0 ∧ ¬ eIE cs j < bfE cs j := by
    unfold riE at he
    by_cases h1 : rangeE (eIE cs j) 0 m = 0
    · rw [if_neg (by simpa using h1)] at he
      refine ⟨h1, fun h2 => ?_⟩
      rw [if_pos h2] at he; cases he
    · rw [if_pos h1] at he; exact absurd he h1
  have h := round_of (P := Tryd.prog) (G := 5) (C := CA) (n := 30) (f := Fn.check_Rising) (b := B127) (ro := ro) (tm := tmL 26 (st127 cs n c m j)) (H := heapL ((hpA dd4 cs t s ex).map (·.1))) (df := []) (df1 := []) (k := 5) (N := 26) (len := 5) (x := .normal) (List.range 5) [(1, i m), (5, i (eIE cs j)), (9, sl 4 0 n c), (10, i (n : Int)), (11, i (wrapF .i64 ((j : Int) + 1)))] (hpA dd4 cs t s ex) [true, true, true, false, false]
    [ltF j n, (leF 0 (j : Int) && (ltF j n && decide (n ≤ c))), isCellB (.i .i64) cs[0 + j * 1]?, !eqF (rangeE (eIE cs j) 0 m) 0, ltF (eIE cs j) (bfE cs j)] tsA lsA (by kernel_rfl) (by kernel_rfl) (by rw [inTc hj h.2.2.1, ltT hj, h.2.1 j hj, he1.1, ltF_eq (eIE cs j), decide_eq_false he1.2]; rfl) (by kernel_rfl) (flat_dd h.1)
  rw [next_i hj ‹OkI cs n c›.2.2.2] at h
  exact h
theorem f127_ret (h : OkI cs n c) (m : Int) (j : Nat) (ro : Option Nat) (hj : j < n) (he : riE cs m j ≠ 0) :
    ∃ tm1 H1, Sound Tryd.prog 5 (.code B127 ro (absT (tmL 26 (st127 cs n c m j))) (heapL ((hpA dd4 cs t s ex).map (·.1))) []) (.ex .ret tm1 H1 []) ∧ Restate 5 tm1 H1 (absT (tmL 26 [(4, i (riE cs m j))])) (heapL ((hpA dd4 cs t s ex).map (·.1))) := by
  by_cases h1 : rangeE (eIE cs j) 0 m = 0
  · have h2 : eIE cs j < bfE cs j := by
      unfold riE at he
      rw [if_neg (by simpa using h1)] at he
      by_cases h2 : eIE cs j < bfE cs j
      · exact h2
      · rw [if_neg h2] at he; exact absurd rfl he
    rw [show riE cs m j = 11 from by unfold riE; rw [if_neg (by simpa using h1), if_pos h2]]
    exact round_of (P := Tryd.prog) (G := 5) (C := CA) (n := 30) (f := Fn.check_Rising) (b := B127) (ro := ro) (tm := tmL 26 (st127 cs n c m j)) (H := heapL ((hpA dd4 cs t s ex).map (·.1))) (df := []) (df1 := []) (k := 5) (N := 26) (len := 5) (x := .ret) (List.range 5) [(4, i 11)] (hpA dd4 cs t s ex) [true, true, true, false, true]
      [ltF j n, (leF 0 (j : Int) && (ltF j n && decide (n ≤ c))), isCellB (.i .i64) cs[0 + j * 1]?, !eqF (rangeE (eIE cs j) 0 m) 0, ltF (eIE cs j) (bfE cs j)] tsA lsA (by kernel_rfl) (by kernel_rfl) (by rw [inTc hj h.2.2.1, ltT hj, h.2.1 j hj, h1, ltF_eq (eIE cs j), decide_eq_true h2]; rfl) (by kernel_rfl) (flat_dd h.1)
  · rw [show riE cs m j = rangeE (eIE cs j) 0 m from by unfold riE; rw [if_pos h1]]
    exact round_of (P := Tryd.prog) (G := 5) (C := CA) (n := 30) (f := Fn.check_Rising) (b := B127) (ro := ro) (tm := tmL 26 (st127 cs n c m j)) (H := heapL ((hpA dd4 cs t s ex).map (·.1))) (df := []) (df1 := []) (k := 5) (N := 26) (len := 5) (x := .ret) (List.range 5) [(4, i (rangeE (eIE cs j) 0 m))] (hpA dd4 cs t s ex) [true, true, true, true]
      [ltF j n, (leF 0 (j : Int) && (ltF j n && decide (n ≤ c))), isCellB (.i .i64) cs[0 + j * 1]?, !eqF (rangeE (eIE cs j) 0 m) 0] tsA lsA (by kernel_rfl) (by kernel_rfl) (by rw [inTc hj h.2.2.1, ltT hj, h.2.1 j hj, eqF_d, decide_eq_false h1]; rfl) (by kernel_rfl) (flat_dd h.1)
theorem f127_end (hf : cs.all Ex.flat = true) (m : Int) (ro : Option Nat) :
    ∃ tm1 H1, Sound Tryd.prog 5 (.code B127 ro (absT (tmL 26 (st127 cs n c m n))) (heapL ((hpA dd4 cs t s ex).map (·.1))) []) (.ex (.exit 0) tm1 H1 []) ∧ Restate 5 tm1 H1 (absT (tmL 26 [])) (heapL ((hpA dd4 cs t s ex).map (·.1))) :=
  round_of (P := Tryd.prog) (G := 5) (C := CA) (n := 30) (f := Fn.check_Rising) (b := B127) (ro := ro) (tm := tmL 26 (st127 cs n c m n)) (H := heapL ((hpA dd4 cs t s ex).map (·.1))) (df := []) (df1 := []) (k := 5) (N := 26) (len := 5) (x := .exit 0) (List.range 5) [] (hpA dd4 cs t s ex) [false]
    [ltF n n] tsA lsA (by kernel_rfl) (by kernel_rfl) (by rw [ltN]; rfl) (by kernel_rfl) (flat_dd hf)
variable (cs t s ex n c) in
noncomputable def L127 (m : Int) : LTab := loopE noL Fn.check_Rising 3 26 5 B127 (st127 cs n c m 0) (hpA dd4 cs t s ex) (two_ends (firstF (riE cs m) n 0) (.exit 0) (tmL 26 []) (tmL 26 [(4, i (firstF (riE cs m) n 0))]) (heapL ((hpA dd4 cs t s ex).map (·.1))))
theorem ls127 (h : OkI cs n c) (m : Int) : LSound Tryd.prog 5 (L127 cs t s ex n c m) := by
  refine LSound.loop .none (by kernel_rfl) (flat_dd h.1) fun r hr ro tm0 H0 hk hst => ?_
  obtain ⟨g1, g2⟩ := first_loop (P := Tryd.prog) (G := 5) (b := B127) (N := 26) (k := 5) (st := st127 cs n c m) (hp := hpA dd4 cs t s ex) (lF := []) (lR := fun e => [(4, i e)]) (x := .exit 0) n (riE cs m) (fun h => by cases h)
    (fun j ro hj he => f127_round h m j ro hj he) (fun j ro hj he => f127_ret h m j ro hj he) (f127_end h.1 m) ro hk (Nat.le_refl _) hst
  exact two_ends_sel (p := fun r => Sound Tryd.prog 5 (.code (.loop B127) ro tm0 H0 []) r) hr g1 g2
theorem f127_small (h : OkI cs n c) (m : Int) :
    ∃ H', Sound Tryd.prog 5 (.call Fn.check_Rising ⟨[sl 4 0 n c, i m]⟩ (heapL (deads ++ [.cells cs t s ex]))) (.val (i (firstF (riE cs m) n 0)) H') := by
  let C : Cfg := ⟨T1, spA, syA, L127 cs t s ex n c m⟩
  obtain ⟨H', hs⟩ := Out.vals_sel (o := execO Tryd.prog 5 C 30 (.call Fn.check_Rising ⟨[sl 4 0 n c, i m]⟩ (heapL (deads ++ [.cells cs t s ex])))) (v := i (firstF (riE cs m) n 0)) (by kernel_rfl) (by
    rw [show (execO Tryd.prog 5 C 30 (.call Fn.check_Rising ⟨[sl 4 0 n c, i m]⟩ (heapL (deads ++ [.cells cs t s ex])))).vals = .br (decide (firstF (riE cs m) n 0 = 0)) (.leaf (i 0)) (.leaf (i (firstF (riE cs m) n 0))) from by kernel_rfl]
    by_cases h : firstF (riE cs m) n 0 = 0 <;> simp [VT.sel, h])
  exact ⟨H', execO_sound (C := C) ts1 (ls127 h m) 30 _ _ hs⟩
end
/-- readers -/
def rdRis : List Value → Option (List Nat × (Nat × Nat × Int))
  | [.slice (some ⟨b, 0, none⟩) n c, .int .i64 m] => some ([b], n, c, m)
  | _ => none
def okRis (a : Nat × Nat × Int) : List (List Value) → Prop
  | [cs] => OkI cs a.1 a.2.1
  | _ => False
def valRis (a : Nat × Nat × Int) : List (List Value) → Value
  | [cs] => i (firstF (riE cs a.2.2) a.1 0)
  | _ => i 0
noncomputable def TA : Tb := ext (ext (ext T1 Fn.check_First (lstE OkI (fun cs n => i (firstF (eIE cs) n 0)) [] Hp.nil)) Fn.ref01_First (lstE OkI (fun cs n => i (firstF (eIE cs) n 0)) [] Hp.nil)) Fn.check_Rising (rdE rdRis okRis valRis [] (heapL deads))
theorem blks1 {cs : List Value} {os : List CO} (h : Blks [cs] os) : ∃ t s ex, os = [.cells cs t s ex] := by
  cases h with
  | cons h => cases h; exact ⟨_, _, _, rfl⟩
theorem tsTA {G : Nat} : TSound Tryd.prog G TA := by
  refine ((ts1.ext (lst_ok (fun cs n c h => h.1) (fun _ _ => rfl) fun cs n c t s ex h => ?_)).ext (lst_ok (fun cs n c h => h.1) (fun _ _ => rfl) fun cs n c t s ex h => ?_)).ext (rd_ok (fun a => [sl 4 0 a.1 a.2.1, i a.2.2]) deads_len deads_flat deads_mem ?_ ?_ ?_ ?_)
  · exact f66_small h
  · exact f16_small h
  · intro args bs a h
    unfold rdRis at h
    split at h
    · cases h; exact ⟨rfl, rfl⟩
    · cases h
  · intro a css h cs hc
    unfold okRis at h
    split at h
    · simp at hc; subst hc; exact h.1
    · cases h
  · intro a css h
    unfold okRis at h
    split at h
    · rfl
    · cases h
  · intro a css os h hb
    unfold okRis at h
    split at h
    · obtain ⟨t, s, ex, rfl⟩ := blks1 hb
      exact f127_small h _
    · cases h
end Go.Proofs.YtbocpikgochioaaDoor.Ways
namespace Go.Proofs.YtbocpikgochioaaDoor.Ways
open Go Go.Ex
/-! ### the drags of a polar, changed into errors -/
noncomputable def B125 : Code := bodyL Tryd.f50 3
def drE (cs : List Value) (j : Nat) : Int := rangeE (eIE cs j) 0 1000
def chD (cs : List Value) (n : Nat) : Nat → List Value
  | 0 => (zeroRow #[i 0] (n * 1)).toList
  | j + 1 => (chD cs n j).set (0 + j * 1) (i (drE cs j))
theorem chD_len (cs : List Value) (n : Nat) : ∀ j, (chD cs n j).length = n
  | 0 => by unfold chD zeroRow; simp
  | j + 1 => by unfold chD; rw [List.length_set]; exact chD_len cs n j
theorem chD_get (cs : List Value) (n : Nat) : ∀ j k, j ≤ n → k < n → (chD cs n j)[k]? = some (if k < j then i (drE cs k) else i 0)
  | 0, k, _, hk => by
    unfold chD zeroRow
    rw [if_neg (by omega)]
    simp [hk, Nat.mod_one]
  | j + 1, k, hj, hk => by
    unfold chD
    rw [List.getElem?_set, chD_len cs n j]
    by_cases hjk : j = k
    · subst hjk
      rw [if_pos (by omega), if_pos (by omega), if_pos (by omega)]
    · rw [if_neg (by omega), chD_get cs n j k (by omega) hk]
      by_cases h : k < j
      · rw [if_pos h, if_pos (by omega)]
      · rw [if_neg h, if_neg (by omega)]
theorem chD_flat (cs : List Value) (n j : Nat) (hj : j ≤ n) : (chD cs n j).all Ex.flat = true := by
  refine List.all_eq_true.2 fun x hx => ?_
  obtain ⟨k, hk⟩ := List.getElem?_of_mem hx
  have hkl := (List.getElem?_eq_some_iff.1 hk).1
  rw [chD_len] at hkl
  rw [chD_get cs n j k hj hkl] at hk
  have := Option.some.inj hk
  rw [← this]
  split <;> rfl
theorem chD_first (cs : List Value) (n : Nat) : firstF (eIE (chD cs n n)) n 0 = firstF (drE cs) n 0 := by
  refine firstF_congr n 0 fun k _ hk => ?_
  unfold eIE
  rw [show 0 + k * 1 = k from by omega, chD_get cs n n k (Nat.le_refl _) (by omega), if_pos (by omega)]
  rfl
theorem chD_ok (cs : List Value) {n : Nat} (hn : n ≤ 1000000) : OkI (chD cs n n) n n := by
  refine ⟨chD_flat cs n n (Nat.le_refl _), fun j hj => ?_, Nat.le_refl _, hn⟩
  rw [show 0 + j * 1 = j from by omega, chD_get cs n n j (Nat.le_refl _) hj, if_pos hj]
  rfl
def spB : Nat → Nat → Split := at_ [(Fn.list_Changed_int_api_Errno, 14)] .bool no_
def spB' : Nat → Nat → Split := at_ [(Fn.rotor_CheckPolar, 10), (Fn.rotor_CheckPolar, 13), (Fn.rotor_CheckPolar, 19)] .bool spB
def syB : Nat → Nat → Bool := on_ [(Fn.list_Changed_int_api_Errno, 10), (Fn.list_Changed_int_api_Errno, 16), (Fn.list_Changed_int_api_Errno, 17), (Fn.list_Changed_int_api_Errno, 23), (Fn.list_Changed_int_api_Errno, 100023)]
noncomputable def CB : Cfg := ⟨TA, spB, syB, noL⟩
theorem tsB {G : Nat} : TSound Tryd.prog G CB.T := tsTA
theorem lsB {G : Nat} : LSound Tryd.prog G CB.L := .none
def st125 (n c j : Nat) : List (Nat × Value) := [(1, fn Fn.rotor_CheckPolar_1), (5, sl 7 0 n n), (11, sl 5 0 n c), (12, i (n : Int)), (13, i (j : Int))]
def dd6 (cs1 : List Value) (t1 s1 : Nat) (e1 : Bool) (cs2 : List Value) (t2 s2 : Nat) (e2 : Bool) : List (CO × Bool) := dd4 ++ [(.cells cs1 t1 s1 e1, true), (.cells cs2 t2 s2 e2, true)]
def hp125 (cs1 : List Value) (t1 s1 : Nat) (e1 : Bool) (cs2 : List Value) (t2 s2 : Nat) (e2 : Bool) (n1 c1 n c j : Nat) : List (CO × Bool) := dd6 cs1 t1 s1 e1 cs2 t2 s2 e2 ++ [(.cells [sl 4 0 n1 c1, sl 5 0 n c] 35 1 true, false), (.cells (chD cs2 n j) 32 1 true, true)]
section
variable {cs1 cs2 : List Value} {t1 s1 t2 s2 : Nat} {e1 e2 : Bool} {n1 c1 n c : Nat}
theorem flat6 (h1 : cs1.all Ex.flat = true) (h2 : cs2.all Ex.flat = true) : ∀ o, (o, true) ∈ dd6 cs1 t1 s1 e1 cs2 t2 s2 e2 → FlatO o := by
  intro o ho
  simp [dd6, dd4] at ho
  rcases ho with rfl | rfl
  · exact fun x hx => List.all_eq_true.1 h1 x hx
  · exact fun x hx => List.all_eq_true.1 h2 x hx
theorem flat125 {j : Nat} (h1 : cs1.all Ex.flat = true) (h2 : cs2.all Ex.flat = true) (hj : j ≤ n) : ∀ o, (o, true) ∈ hp125 cs1 t1 s1 e1 cs2 t2 s2 e2 n1 c1 n c j → FlatO o := by
  intro o ho
  unfold hp125 at ho
  rcases List.mem_append.1 ho with ho | ho
  · exact flat6 h1 h2 o ho
  · simp at ho
    subst ho
    exact fun x hx => List.all_eq_true.1 (chD_flat cs2 n j hj) x hx
theorem c125_round (h1 : cs1.all Ex.flat = true) (h : OkI cs2 n c) (j : Nat) (ro : Option Nat) (hj : j < n) :
    ∃ tm1 H1, Sound Tryd.prog 6 (.code B125 ro (absT (tmL 26 (st125 n c j))) (heapL ((hp125 cs1 t1 s1 e1 cs2 t2 s2 e2 n1 c1 n c j).map (·.1))) []) (.ex .normal tm1 H1 []) ∧ Restate 8 tm1 H1 (absT (tmL 26 (st125 n c (j + 1)))) (heapL ((hp125 cs1 t1 s1 e1 cs2 t2 s2 e2 n1 c1 n c (j + 1)).map (·.1))) := by
  have h := round_of (P := Tryd.prog) (G := 6) (C := CB) (n := 30) (f := Fn.list_Changed_int_api_Errno) (b := B125) (ro := ro) (tm := tmL 26 (st125 n c j)) (H := heapL ((hp125 cs1 t1 s1 e1 cs2 t2 s2 e2 n1 c1 n c j).map (·.1))) (df := []) (df1 := []) (k := 8) (N := 26) (len := 8) (x := .normal) (List.range 8) [(1, fn Fn.rotor_CheckPolar_1), (5, sl 7 0 n n), (11, sl 5 0 n c), (12, i (n : Int)), (13, i (wrapF .i64 ((j : Int) + 1)))] (hp125 cs1 t1 s1 e1 cs2 t2 s2 e2 n1 c1 n c (j + 1)) [true, true, true, true, true]
    [ltF j n, (leF 0 (j : Int) && (ltF j n && decide (n ≤ c))), isCellB (.i .i64) cs2[0 + j * 1]?, (leF 0 (j : Int) && (ltF j n && decide (n ≤ n))), decide (0 + j * 1 < (chD cs2 n j).length) && true] tsB lsB (by kernel_rfl) (by kernel_rfl) (by rw [inTc hj h.2.2.1, inT hj, ltT hj, h.2.1 j hj, chD_len, decide_eq_true (by omega)]; rfl) (by kernel_rfl) (flat125 h1 h.1 (by omega))
  rw [next_i hj ‹OkI cs2 n c›.2.2.2] at h
  exact h
theorem c125_end (h1 : cs1.all Ex.flat = true) (h : OkI cs2 n c) (ro : Option Nat) :
    ∃ tm1 H1, Sound Tryd.prog 6 (.code B125 ro (absT (tmL 26 (st125 n c n))) (heapL ((hp125 cs1 t1 s1 e1 cs2 t2 s2 e2 n1 c1 n c n).map (·.1))) []) (.ex (.exit 0) tm1 H1 []) ∧ Restate 8 tm1 H1 (absT (tmL 26 [(5, sl 7 0 n n)])) (heapL ((hp125 cs1 t1 s1 e1 cs2 t2 s2 e2 n1 c1 n c n).map (·.1))) := by
  have hfl : ∀ o, (o, true) ∈ hp125 cs1 t1 s1 e1 cs2 t2 s2 e2 n1 c1 n c n → FlatO o := flat125 h1 h.1 (Nat.le_refl _)
  have hq : [ltF (n : Int) n] = List.take [ltF (n : Int) n].length [false] := by rw [ltN]; rfl
  have h := round_of (P := Tryd.prog) (G := 6) (C := CB) (n := 30) (f := Fn.list_Changed_int_api_Errno) (b := B125) (ro := ro) (tm := tmL 26 (st125 n c n)) (H := heapL ((hp125 cs1 t1 s1 e1 cs2 t2 s2 e2 n1 c1 n c n).map (·.1))) (df := []) (df1 := []) (k := 8) (N := 26) (len := 8) (x := .exit 0) (List.range 8) [(5, sl 7 0 n n)] (hp125 cs1 t1 s1 e1 cs2 t2 s2 e2 n1 c1 n c n) [false]
    [ltF n n] tsB lsB (by kernel_rfl) (by kernel_rfl) hq (by kernel_rfl) hfl
  exact h
variable (cs1 t1 s1 e1 cs2 t2 s2 e2 n1 c1 n c) in
noncomputable def L125 : LTab := loopE noL Fn.list_Changed_int_api_Errno 3 26 8 B125 (st125 n c 0) (hp125 cs1 t1 s1 e1 cs2 t2 s2 e2 n1 c1 n c 0) (.leaf (.ex (.exit 0) (tmL 26 [(5, sl 7 0 n n)]) (heapL ((hp125 cs1 t1 s1 e1 cs2 t2 s2 e2 n1 c1 n c n).map (·.1))) []))
theorem ls125 (h1 : cs1.all Ex.flat = true) (h : OkI cs2 n c) : LSound Tryd.prog 6 (L125 cs1 cs2 t1 s1 t2 s2 e1 e2 n1 c1 n c) := by
  refine LSound.loop .none (by kernel_rfl) (flat125 h1 h.1 (Nat.zero_le _)) fun r hr ro tm0 H0 hk hst => ?_
  cases hr
  exact count_loop (P := Tryd.prog) (G := 6) (b := B125) (N := 26) (k := 8) (st := st125 n c) (hp := hp125 cs1 t1 s1 e1 cs2 t2 s2 e2 n1 c1 n c) (lF := [(5, sl 7 0 n n)]) (x := .exit 0) n (fun h => by cases h)
    (fun j ro hj => c125_round h1 h j ro hj) (c125_end h1 h) ro hk (by omega) hst
end
noncomputable def hp118 (cs1 : List Value) (t1 s1 : Nat) (e1 : Bool) (cs2 : List Value) (t2 s2 : Nat) (e2 : Bool) : CH := heapL (deads ++ [.cells cs1 t1 s1 e1, .cells cs2 t2 s2 e2])
def polV (n1 c1 n2 c2 : Nat) : Value := ag [sl 4 0 n1 c1, sl 5 0 n2 c2]
/-! ### the first of a list that is written out -/
def firstL : List Int → Int
  | [] => 0
  | x :: r => firstE x (firstL r)
theorem firstF_list : ∀ (L : List Int) (pre : List Value), firstF (eIE (pre ++ L.map i)) L.length pre.length = firstL L
  | [], _ => rfl
  | x :: r, pre => by
    have he : eIE (pre ++ (x :: r).map i) pre.length = x := by
      unfold eIE
      rw [show 0 + pre.length * 1 = pre.length from by omega, List.getElem?_append_right (Nat.le_refl _), Nat.sub_self]
      rfl
    show (if eIE (pre ++ (x :: r).map i) pre.length ≠ 0 then eIE (pre ++ (x :: r).map i) pre.length else firstF (eIE (pre ++ (x :: r).map i)) r.length (pre.length + 1)) = _
    rw [he]
    have ih := firstF_list r (pre ++ [i x])
    rw [show (pre ++ [i x]) ++ r.map i = pre ++ (x :: r).map i from by simp, show (pre ++ [i x]).length = pre.length + 1 from by simp] at ih
    rw [ih]
    unfold firstL firstE
    by_cases hx : x = 0 <;> simp [hx]
    cases r <;> rfl
theorem okI_list (L : List Int) (h : L.length ≤ 1000000) : OkI (L.map i) L.length L.length := by
  refine ⟨List.all_eq_true.2 fun x hx => ?_, fun j hj => ?_, Nat.le_refl _, h⟩
  · obtain ⟨y, _, rfl⟩ := List.mem_map.1 hx; rfl
  · rw [show 0 + j * 1 = j from by omega, List.getElem?_map, List.getElem?_eq_getElem hj]; rfl
theorem first_list (L : List Int) : firstF (eIE (L.map i)) L.length 0 = firstL L := firstF_list L []
/-! ### polars -/
def polE (cs1 : List Value) (n1 : Nat) (cs2 : List Value) (n2 : Nat) : Int :=
  if (n1 : Int) = 0 then 12 else if (32 : Int) < n1 then 5 else if (n1 : Int) = n2 then firstE (firstF (riE cs1 1000) n1 0) (firstF (drE cs2) n2 0) else 2
def askB (b : Bool) (k : VT) : VT := .br b k .fail
theorem askB_sel {b : Bool} {k : VT} (h : b = true) : (askB b k).sel = k.sel := by rw [h]; rfl
theorem brD {p : Prop} [Decidable p] {x y : VT} : (VT.br (decide p) x y).sel = if p then x.sel else y.sel := by
  by_cases h : p
  · rw [if_pos h, decide_eq_true h]; rfl
  · rw [if_neg h, decide_eq_false h]; rfl
theorem brN {p : Prop} [Decidable p] {x y : VT} : (VT.br (!decide p) x y).sel = if p then y.sel else x.sel := by
  by_cases h : p
  · rw [if_pos h, decide_eq_true h]; rfl
  · rw [if_neg h, decide_eq_false h]; rfl
theorem brB {b : Bool} {x y : VT} : (VT.br b x y).sel = if b = true then x.sel else y.sel := by cases b <;> rfl
/-- a list that is written out goes to First -/
noncomputable def askFst (L : List Int) (k : Int → VT) : VT := askB (tru (OkI (L.map i) L.length L.length)) (k (firstF (eIE (L.map i)) L.length 0))
theorem askFst_sel {L : List Int} {k : Int → VT} (h : L.length ≤ 1000000) : (askFst L k).sel = (k (firstL L)).sel := by
  unfold askFst
  rw [askB_sel (tru_iff.2 (okI_list L h)), first_list]
theorem firstE_zero (x : Int) : firstE x 0 = x := by
  unfold firstE
  by_cases h : x = 0 <;> simp [h]
section
variable {cs1 cs2 : List Value} {t1 s1 t2 s2 : Nat} {e1 e2 : Bool} {n1 c1 n c : Nat}
theorem f118_small (h1 : OkI cs1 n1 c1) (h2 : OkI cs2 n c) :
    ∃ H', Sound Tryd.prog 6 (.call Fn.rotor_CheckPolar ⟨[polV n1 c1 n c]⟩ (hp118 cs1 t1 s1 e1 cs2 t2 s2 e2)) (.val (i (polE cs1 n1 cs2 n)) H') := by
  let C : Cfg := ⟨TA, spB', syB, L125 cs1 cs2 t1 s1 t2 s2 e1 e2 n1 c1 n c⟩
  obtain ⟨H', hs⟩ := Out.vals_sel (o := execO Tryd.prog 6 C 40 (.call Fn.rotor_CheckPolar ⟨[polV n1 c1 n c]⟩ (hp118 cs1 t1 s1 e1 cs2 t2 s2 e2))) (v := i (polE cs1 n1 cs2 n)) (by kernel_rfl) (by
    rw [show (execO Tryd.prog 6 C 40 (.call Fn.rotor_CheckPolar ⟨[polV n1 c1 n c]⟩ (hp118 cs1 t1 s1 e1 cs2 t2 s2 e2))).vals =
      .br (eqF n1 0) (.leaf (i 12)) (.br (ltF 32 n1) (.leaf (i 5)) (.br (!eqF n1 n) (.leaf (i 2)) (askB (leF 0 n && (leF n n && leF n 1048576)) (askB (tru (okRis (n1, c1, 1000) [cs1])) (askB (tru (OkI (chD cs2 n n) n n))
        (askFst [firstF (riE cs1 1000) n1 0, firstF (eIE (chD cs2 n n)) n 0] fun e => .leaf (i e))))))) from by kernel_rfl]
    have h0 : (leF 0 (n : Int) && (leF (n : Int) n && leF (n : Int) 1048576)) = true := by simp [leF_eq]; have := h2.2.2.2; omega
    rw [eqF_d, ltF_eq, eqF_d, brD, brD, brN, askB_sel h0, askB_sel (tru_iff.2 (show okRis (n1, c1, 1000) [cs1] from h1)), askB_sel (tru_iff.2 (chD_ok cs2 h2.2.2.2)), askFst_sel (by simp), chD_first]
    unfold polE
    by_cases a1 : (n1 : Int) = 0
    · rw [if_pos a1, if_pos a1]; rfl
    rw [if_neg a1, if_neg a1]
    by_cases a2 : (32 : Int) < n1
    · rw [if_pos a2, if_pos a2]; rfl
    rw [if_neg a2, if_neg a2]
    by_cases a3 : (n1 : Int) = n
    · rw [if_pos a3, if_pos a3]
      show some (i (firstE _ (firstE _ 0))) = _
      rw [firstE_zero]
    · rw [if_neg a3, if_neg a3]; rfl)
  exact ⟨H', execO_sound (C := C) tsTA (ls125 h1.1 h2) 40 _ _ hs⟩
end
end Go.Proofs.YtbocpikgochioaaDoor.Ways
namespace Go.Proofs.YtbocpikgochioaaDoor.Ways
open Go Go.Ex
/-! ### the reference's check of a polar -/
noncomputable def B79a : Code := bodyL Tryd.f15 8
noncomputable def B79b : Code := bodyL Tryd.f15 16
def spC : Nat → Nat → Split := at_ [(Fn.ref03_CheckPolar, 26), (Fn.ref03_CheckPolar, 36), (Fn.ref03_CheckPolar, 39), (Fn.ref03_CheckPolar, 53), (Fn.ref03_CheckPolar, 58), (Fn.ref03_CheckPolar, 68)] .bool no_
def spC' : Nat → Nat → Split := at_ [(Fn.ref03_CheckPolar, 10), (Fn.ref03_CheckPolar, 14), (Fn.ref03_CheckPolar, 21)] .bool spC
def syC : Nat → Nat → Bool := on_ [(Fn.ref03_CheckPolar, 32), (Fn.ref03_CheckPolar, 33), (Fn.ref03_CheckPolar, 44), (Fn.ref03_CheckPolar, 45), (Fn.ref03_CheckPolar, 50), (Fn.ref03_CheckPolar, 51), (Fn.ref03_CheckPolar, 64), (Fn.ref03_CheckPolar, 65)]
noncomputable def CC : Cfg := ⟨TA, spC, syC, noL⟩
theorem tsC {G : Nat} : TSound Tryd.prog G CC.T := tsTA
theorem lsC {G : Nat} : LSound Tryd.prog G CC.L := .none
def st79a (j : Nat) : List (Nat × Value) := [(1, pt 6 0), (3, i (j : Int))]
def st79b (j : Nat) : List (Nat × Value) := [(1, pt 6 0), (5, i (j : Int))]
def hp79 (cs1 : List Value) (t1 s1 : Nat) (e1 : Bool) (cs2 : List Value) (t2 s2 : Nat) (e2 : Bool) (n1 c1 n c : Nat) : List (CO × Bool) := dd6 cs1 t1 s1 e1 cs2 t2 s2 e2 ++ [(.cells [sl 4 0 n1 c1, sl 5 0 n c] 24 1 true, false)]
theorem riE_zero {cs : List Value} {m : Int} {j : Nat} (he : riE cs m j = 0) : rangeE (eIE cs j) 0 m = 0 ∧ ¬ eIE cs j < bfE cs j := by
  unfold riE at he
  by_cases h1 : rangeE (eIE cs j) 0 m = 0
  · rw [if_neg (by simpa using h1)] at he
    refine ⟨h1, fun h2 => ?_⟩
    rw [if_pos h2] at he; cases he
  · rw [if_pos h1] at he; exact absurd he h1
theorem riE_nz {cs : List Value} {m : Int} {j : Nat} (he : riE cs m j ≠ 0) (h1 : rangeE (eIE cs j) 0 m = 0) : eIE cs j < bfE cs j ∧ riE cs m j = 11 ∧ ∃ k, j = k + 1 := by
  have h2 : eIE cs j < bfE cs j := by
    unfold riE at he
    rw [if_neg (by simpa using h1)] at he
    by_cases h2 : eIE cs j < bfE cs j
    · exact h2
    · rw [if_neg h2] at he; exact absurd rfl he
  refine ⟨h2, by unfold riE; rw [if_neg (by simpa using h1), if_pos h2], ?_⟩
  cases j with
  | zero =>
    exfalso
    unfold rangeE at h1
    split at h1
    · cases h1
    · have : bfE cs 0 = 0 := rfl
      omega
  | succ k => exact ⟨k, rfl⟩
theorem prev_i {k n : Nat} (hk : k + 1 < n) (hn : n ≤ 1000000) : wrapF .i64 (((k + 1 : Nat) : Int) - 1) = (k : Int) := by
  rw [wrapF_in (by omega) (by omega)]; omega
section
variable {cs1 cs2 : List Value} {t1 s1 t2 s2 : Nat} {e1 e2 : Bool} {n1 c1 n c : Nat}
theorem flat79 (h1 : cs1.all Ex.flat = true) (h2 : cs2.all Ex.flat = true) : ∀ o, (o, true) ∈ hp79 cs1 t1 s1 e1 cs2 t2 s2 e2 n1 c1 n c → FlatO o := by
  intro o ho
  unfold hp79 at ho
  rcases List.mem_append.1 ho with ho | ho
  · exact flat6 h1 h2 o ho
  · simp at ho
theorem f79a_round0 (h1 : OkI cs1 n1 c1) (h2 : cs2.all Ex.flat = true) (ro : Option Nat) (hj : 0 < n1) (he : riE cs1 1000 0 = 0) :
    ∃ tm1 H1, Sound Tryd.prog 6 (.code B79a ro (absT (tmL 70 (st79a 0))) (heapL ((hp79 cs1 t1 s1 e1 cs2 t2 s2 e2 n1 c1 n c).map (·.1))) []) (.ex .normal tm1 H1 []) ∧ Restate 7 tm1 H1 (absT (tmL 70 (st79a 1))) (heapL ((hp79 cs1 t1 s1 e1 cs2 t2 s2 e2 n1 c1 n c).map (·.1))) := by
  have he1 := riE_zero he
  have h := round_of (P := Tryd.prog) (G := 6) (C := CC) (n := 30) (f := Fn.ref03_CheckPolar) (b := B79a) (ro := ro) (tm := tmL 70 (st79a 0)) (H := heapL ((hp79 cs1 t1 s1 e1 cs2 t2 s2 e2 n1 c1 n c).map (·.1))) (df := []) (df1 := []) (k := 7) (N := 70) (len := 7) (x := .normal) (List.range 7) [(1, pt 6 0), (3, i (wrapF .i64 (((0 : Nat) : Int) + 1)))] (hp79 cs1 t1 s1 e1 cs2 t2 s2 e2 n1 c1 n c) [true, true, true, false, false, false]
    [ltF (0 : Nat) n1, (leF 0 ((0 : Nat) : Int) && (ltF (0 : Nat) n1 && decide (n1 ≤ c1))), isCellB (.i .i64) cs1[0 + 0 * 1]?, !eqF (rangeE (eIE cs1 0) 0 1000) 0, ltF 0 ((0 : Nat) : Int), false] tsC lsC (by kernel_rfl) (by kernel_rfl) (by rw [inTc hj h1.2.2.1, ltT hj, h1.2.1 0 hj, he1.1]; rfl) (by kernel_rfl) (flat79 h1.1 h2)
  rw [next_i hj h1.2.2.2] at h
  exact h
theorem f79a_round1 (h1 : OkI cs1 n1 c1) (h2 : cs2.all Ex.flat = true) (k : Nat) (ro : Option Nat) (hj : k + 1 < n1) (he : riE cs1 1000 (k + 1) = 0) :
    ∃ tm1 H1, Sound Tryd.prog 6 (.code B79a ro (absT (tmL 70 (st79a (k + 1)))) (heapL ((hp79 cs1 t1 s1 e1 cs2 t2 s2 e2 n1 c1 n c).map (·.1))) []) (.ex .normal tm1 H1 []) ∧ Restate 7 tm1 H1 (absT (tmL 70 (st79a (k + 1 + 1)))) (heapL ((hp79 cs1 t1 s1 e1 cs2 t2 s2 e2 n1 c1 n c).map (·.1))) := by
  have he1 := riE_zero he
  have hb : bfE cs1 (k + 1) = eIE cs1 k := rfl
  rw [hb] at he1
  have hp := prev_i hj h1.2.2.2
  have hq : (wrapF .i64 (((k + 1 : Nat) : Int) - 1)).toNat = k := by rw [hp]; rfl
  have h := round_of (P := Tryd.prog) (G := 6) (C := CC) (n := 30) (f := Fn.ref03_CheckPolar) (b := B79a) (ro := ro) (tm := tmL 70 (st79a (k + 1))) (H := heapL ((hp79 cs1 t1 s1 e1 cs2 t2 s2 e2 n1 c1 n c).map (·.1))) (df := []) (df1 := []) (k := 7) (N := 70) (len := 7) (x := .normal) (List.range 7) [(1, pt 6 0), (3, i (wrapF .i64 (((k + 1 : Nat) : Int) + 1)))] (hp79 cs1 t1 s1 e1 cs2 t2 s2 e2 n1 c1 n c) [true, true, true, false, true, true, true, true, true, false]
    [ltF (k + 1 : Nat) n1, (leF 0 ((k + 1 : Nat) : Int) && (ltF (k + 1 : Nat) n1 && decide (n1 ≤ c1))), isCellB (.i .i64) cs1[0 + (k + 1) * 1]?, !eqF (rangeE (eIE cs1 (k + 1)) 0 1000) 0, ltF 0 ((k + 1 : Nat) : Int), (leF 0 ((k + 1 : Nat) : Int) && (ltF (k + 1 : Nat) n1 && decide (n1 ≤ c1))), isCellB (.i .i64) cs1[0 + (k + 1) * 1]?,
      (leF 0 (wrapF .i64 (((k + 1 : Nat) : Int) - 1)) && (ltF (wrapF .i64 (((k + 1 : Nat) : Int) - 1)) n1 && decide (n1 ≤ c1))), isCellB (.i .i64) cs1[0 + (wrapF .i64 (((k + 1 : Nat) : Int) - 1)).toNat * 1]?, ltF (eIE cs1 (k + 1)) (intO cs1[0 + (wrapF .i64 (((k + 1 : Nat) : Int) - 1)).toNat * 1]?)] tsC lsC (by kernel_rfl) (by kernel_rfl) (by
      rw [hq, hp, inTc hj h1.2.2.1, inTc (show k < n1 from by omega) h1.2.2.1, ltT hj, h1.2.1 (k + 1) hj, h1.2.1 k (by omega), he1.1, show intO cs1[0 + k * 1]? = eIE cs1 k from rfl, ltF_eq (eIE cs1 (k + 1)), decide_eq_false he1.2, ltF_eq 0, decide_eq_true (show (0 : Int) < ((k + 1 : Nat) : Int) from by omega)]; rfl) (by kernel_rfl) (flat79 h1.1 h2)
  rw [next_i hj h1.2.2.2] at h
  exact h
theorem f79a_ret (h1 : OkI cs1 n1 c1) (h2 : cs2.all Ex.flat = true) (j : Nat) (ro : Option Nat) (hj : j < n1) (he : riE cs1 1000 j ≠ 0) :
    ∃ tm1 H1, Sound Tryd.prog 6 (.code B79a ro (absT (tmL 70 (st79a j))) (heapL ((hp79 cs1 t1 s1 e1 cs2 t2 s2 e2 n1 c1 n c).map (·.1))) []) (.ex .ret tm1 H1 []) ∧ Restate 7 tm1 H1 (absT (tmL 70 [(2, i (riE cs1 1000 j))])) (heapL ((hp79 cs1 t1 s1 e1 cs2 t2 s2 e2 n1 c1 n c).map (·.1))) := by
  by_cases hr : rangeE (eIE cs1 j) 0 1000 = 0
  · obtain ⟨hlt, he11, k, rfl⟩ := riE_nz he hr
    rw [he11]
    have hb : bfE cs1 (k + 1) = eIE cs1 k := rfl
    rw [hb] at hlt
    have hp := prev_i hj h1.2.2.2
    have hq : (wrapF .i64 (((k + 1 : Nat) : Int) - 1)).toNat = k := by rw [hp]; rfl
    exact round_of (P := Tryd.prog) (G := 6) (C := CC) (n := 30) (f := Fn.ref03_CheckPolar) (b := B79a) (ro := ro) (tm := tmL 70 (st79a (k + 1))) (H := heapL ((hp79 cs1 t1 s1 e1 cs2 t2 s2 e2 n1 c1 n c).map (·.1))) (df := []) (df1 := []) (k := 7) (N := 70) (len := 7) (x := .ret) (List.range 7) [(2, i 11)] (hp79 cs1 t1 s1 e1 cs2 t2 s2 e2 n1 c1 n c) [true, true, true, false, true, true, true, true, true, true]
      [ltF (k + 1 : Nat) n1, (leF 0 ((k + 1 : Nat) : Int) && (ltF (k + 1 : Nat) n1 && decide (n1 ≤ c1))), isCellB (.i .i64) cs1[0 + (k + 1) * 1]?, !eqF (rangeE (eIE cs1 (k + 1)) 0 1000) 0, ltF 0 ((k + 1 : Nat) : Int), (leF 0 ((k + 1 : Nat) : Int) && (ltF (k + 1 : Nat) n1 && decide (n1 ≤ c1))), isCellB (.i .i64) cs1[0 + (k + 1) * 1]?,
        (leF 0 (wrapF .i64 (((k + 1 : Nat) : Int) - 1)) && (ltF (wrapF .i64 (((k + 1 : Nat) : Int) - 1)) n1 && decide (n1 ≤ c1))), isCellB (.i .i64) cs1[0 + (wrapF .i64 (((k + 1 : Nat) : Int) - 1)).toNat * 1]?, ltF (eIE cs1 (k + 1)) (intO cs1[0 + (wrapF .i64 (((k + 1 : Nat) : Int) - 1)).toNat * 1]?)] tsC lsC (by kernel_rfl) (by kernel_rfl) (by
        rw [hq, hp, inTc hj h1.2.2.1, inTc (show k < n1 from by omega) h1.2.2.1, ltT hj, h1.2.1 (k + 1) hj, h1.2.1 k (by omega), hr, show intO cs1[0 + k * 1]? = eIE cs1 k from rfl, ltF_eq (eIE cs1 (k + 1)), decide_eq_true hlt, ltF_eq 0, decide_eq_true (show (0 : Int) < ((k + 1 : Nat) : Int) from by omega)]; rfl) (by kernel_rfl) (flat79 h1.1 h2)
  · rw [show riE cs1 1000 j = rangeE (eIE cs1 j) 0 1000 from by unfold riE; rw [if_pos hr]]
    exact round_of (P := Tryd.prog) (G := 6) (C := CC) (n := 30) (f := Fn.ref03_CheckPolar) (b := B79a) (ro := ro) (tm := tmL 70 (st79a j)) (H := heapL ((hp79 cs1 t1 s1 e1 cs2 t2 s2 e2 n1 c1 n c).map (·.1))) (df := []) (df1 := []) (k := 7) (N := 70) (len := 7) (x := .ret) (List.range 7) [(2, i (rangeE (eIE cs1 j) 0 1000))] (hp79 cs1 t1 s1 e1 cs2 t2 s2 e2 n1 c1 n c) [true, true, true, true]
      [ltF j n1, (leF 0 (j : Int) && (ltF j n1 && decide (n1 ≤ c1))), isCellB (.i .i64) cs1[0 + j * 1]?, !eqF (rangeE (eIE cs1 j) 0 1000) 0] tsC lsC (by kernel_rfl) (by kernel_rfl) (by rw [inTc hj h1.2.2.1, ltT hj, h1.2.1 j hj, eqF_d, decide_eq_false hr]; rfl) (by kernel_rfl) (flat79 h1.1 h2)
theorem f79a_end (h1 : cs1.all Ex.flat = true) (h2 : cs2.all Ex.flat = true) (ro : Option Nat) :
    ∃ tm1 H1, Sound Tryd.prog 6 (.code B79a ro (absT (tmL 70 (st79a n1))) (heapL ((hp79 cs1 t1 s1 e1 cs2 t2 s2 e2 n1 c1 n c).map (·.1))) []) (.ex (.exit 0) tm1 H1 []) ∧ Restate 7 tm1 H1 (absT (tmL 70 [(1, pt 6 0)])) (heapL ((hp79 cs1 t1 s1 e1 cs2 t2 s2 e2 n1 c1 n c).map (·.1))) :=
  round_of (P := Tryd.prog) (G := 6) (C := CC) (n := 30) (f := Fn.ref03_CheckPolar) (b := B79a) (ro := ro) (tm := tmL 70 (st79a n1)) (H := heapL ((hp79 cs1 t1 s1 e1 cs2 t2 s2 e2 n1 c1 n c).map (·.1))) (df := []) (df1 := []) (k := 7) (N := 70) (len := 7) (x := .exit 0) (List.range 7) [(1, pt 6 0)] (hp79 cs1 t1 s1 e1 cs2 t2 s2 e2 n1 c1 n c) [false]
    [ltF n1 n1] tsC lsC (by kernel_rfl) (by kernel_rfl) (by rw [ltN]; rfl) (by kernel_rfl) (flat79 h1 h2)
theorem f79b_round (h1 : cs1.all Ex.flat = true) (h2 : OkI cs2 n c) (j : Nat) (ro : Option Nat) (hj : j < n) (he : drE cs2 j = 0) :
    ∃ tm1 H1, Sound Tryd.prog 6 (.code B79b ro (absT (tmL 70 (st79b j))) (heapL ((hp79 cs1 t1 s1 e1 cs2 t2 s2 e2 n1 c1 n c).map (·.1))) []) (.ex .normal tm1 H1 []) ∧ Restate 7 tm1 H1 (absT (tmL 70 (st79b (j + 1)))) (heapL ((hp79 cs1 t1 s1 e1 cs2 t2 s2 e2 n1 c1 n c).map (·.1))) := by
  have h := round_of (P := Tryd.prog) (G := 6) (C := CC) (n := 30) (f := Fn.ref03_CheckPolar) (b := B79b) (ro := ro) (tm := tmL 70 (st79b j)) (H := heapL ((hp79 cs1 t1 s1 e1 cs2 t2 s2 e2 n1 c1 n c).map (·.1))) (df := []) (df1 := []) (k := 7) (N := 70) (len := 7) (x := .normal) (List.range 7) [(1, pt 6 0), (5, i (wrapF .i64 ((j : Int) + 1)))] (hp79 cs1 t1 s1 e1 cs2 t2 s2 e2 n1 c1 n c) [true, true, true, false]
    [ltF j n, (leF 0 (j : Int) && (ltF j n && decide (n ≤ c))), isCellB (.i .i64) cs2[0 + j * 1]?, !eqF (drE cs2 j) 0] tsC lsC (by kernel_rfl) (by kernel_rfl) (by rw [inTc hj h2.2.2.1, ltT hj, h2.2.1 j hj, he]; rfl) (by kernel_rfl) (flat79 h1 h2.1)
  rw [next_i hj h2.2.2.2] at h
  exact h
theorem f79b_ret (h1 : cs1.all Ex.flat = true) (h2 : OkI cs2 n c) (j : Nat) (ro : Option Nat) (hj : j < n) (he : drE cs2 j ≠ 0) :
    ∃ tm1 H1, Sound Tryd.prog 6 (.code B79b ro (absT (tmL 70 (st79b j))) (heapL ((hp79 cs1 t1 s1 e1 cs2 t2 s2 e2 n1 c1 n c).map (·.1))) []) (.ex .ret tm1 H1 []) ∧ Restate 7 tm1 H1 (absT (tmL 70 [(2, i (drE cs2 j))])) (heapL ((hp79 cs1 t1 s1 e1 cs2 t2 s2 e2 n1 c1 n c).map (·.1))) :=
  round_of (P := Tryd.prog) (G := 6) (C := CC) (n := 30) (f := Fn.ref03_CheckPolar) (b := B79b) (ro := ro) (tm := tmL 70 (st79b j)) (H := heapL ((hp79 cs1 t1 s1 e1 cs2 t2 s2 e2 n1 c1 n c).map (·.1))) (df := []) (df1 := []) (k := 7) (N := 70) (len := 7) (x := .ret) (List.range 7) [(2, i (drE cs2 j))] (hp79 cs1 t1 s1 e1 cs2 t2 s2 e2 n1 c1 n c) [true, true, true, true]
    [ltF j n, (leF 0 (j : Int) && (ltF j n && decide (n ≤ c))), isCellB (.i .i64) cs2[0 + j * 1]?, !eqF (drE cs2 j) 0] tsC lsC (by kernel_rfl) (by kernel_rfl) (by rw [inTc hj h2.2.2.1, ltT hj, h2.2.1 j hj, eqF_d, decide_eq_false he]; rfl) (by kernel_rfl) (flat79 h1 h2.1)
theorem f79b_end (h1 : cs1.all Ex.flat = true) (h2 : cs2.all Ex.flat = true) (ro : Option Nat) :
    ∃ tm1 H1, Sound Tryd.prog 6 (.code B79b ro (absT (tmL 70 (st79b n))) (heapL ((hp79 cs1 t1 s1 e1 cs2 t2 s2 e2 n1 c1 n c).map (·.1))) []) (.ex (.exit 2) tm1 H1 []) ∧ Restate 7 tm1 H1 (absT (tmL 70 [])) (heapL ((hp79 cs1 t1 s1 e1 cs2 t2 s2 e2 n1 c1 n c).map (·.1))) :=
  round_of (P := Tryd.prog) (G := 6) (C := CC) (n := 30) (f := Fn.ref03_CheckPolar) (b := B79b) (ro := ro) (tm := tmL 70 (st79b n)) (H := heapL ((hp79 cs1 t1 s1 e1 cs2 t2 s2 e2 n1 c1 n c).map (·.1))) (df := []) (df1 := []) (k := 7) (N := 70) (len := 7) (x := .exit 2) (List.range 7) [] (hp79 cs1 t1 s1 e1 cs2 t2 s2 e2 n1 c1 n c) [false]
    [ltF n n] tsC lsC (by kernel_rfl) (by kernel_rfl) (by rw [ltN]; rfl) (by kernel_rfl) (flat79 h1 h2)
variable (cs1 cs2 t1 s1 t2 s2 e1 e2 n1 c1 n c) in
noncomputable def L79a : LTab := loopE noL Fn.ref03_CheckPolar 8 70 7 B79a (st79a 0) (hp79 cs1 t1 s1 e1 cs2 t2 s2 e2 n1 c1 n c) (two_ends (firstF (riE cs1 1000) n1 0) (.exit 0) (tmL 70 [(1, pt 6 0)]) (tmL 70 [(2, i (firstF (riE cs1 1000) n1 0))]) (heapL ((hp79 cs1 t1 s1 e1 cs2 t2 s2 e2 n1 c1 n c).map (·.1))))
variable (cs1 cs2 t1 s1 t2 s2 e1 e2 n1 c1 n c) in
noncomputable def L79 : LTab := loopE (L79a cs1 cs2 t1 s1 t2 s2 e1 e2 n1 c1 n c) Fn.ref03_CheckPolar 16 70 7 B79b (st79b 0) (hp79 cs1 t1 s1 e1 cs2 t2 s2 e2 n1 c1 n c) (two_ends (firstF (drE cs2) n 0) (.exit 2) (tmL 70 []) (tmL 70 [(2, i (firstF (drE cs2) n 0))]) (heapL ((hp79 cs1 t1 s1 e1 cs2 t2 s2 e2 n1 c1 n c).map (·.1))))
theorem ls79 (h1 : OkI cs1 n1 c1) (h2 : OkI cs2 n c) : LSound Tryd.prog 6 (L79 cs1 cs2 t1 s1 t2 s2 e1 e2 n1 c1 n c) := by
  refine LSound.loop (LSound.loop .none (by kernel_rfl) (flat79 h1.1 h2.1) fun r hr ro tm0 H0 hk hst => ?_) (by kernel_rfl) (flat79 h1.1 h2.1) fun r hr ro tm0 H0 hk hst => ?_
  · obtain ⟨g1, g2⟩ := first_loop (P := Tryd.prog) (G := 6) (b := B79a) (N := 70) (k := 7) (st := st79a) (hp := hp79 cs1 t1 s1 e1 cs2 t2 s2 e2 n1 c1 n c) (lF := [(1, pt 6 0)]) (lR := fun e => [(2, i e)]) (x := .exit 0) n1 (riE cs1 1000) (fun h => by cases h)
      (fun j ro hj he => by
        cases j with
        | zero => exact f79a_round0 h1 h2.1 ro hj he
        | succ k => exact f79a_round1 h1 h2.1 k ro hj he) (fun j ro hj he => f79a_ret h1 h2.1 j ro hj he) (f79a_end h1.1 h2.1) ro hk (by omega) hst
    exact two_ends_sel (p := fun r => Sound Tryd.prog 6 (.code (.loop B79a) ro tm0 H0 []) r) hr g1 g2
  · obtain ⟨g1, g2⟩ := first_loop (P := Tryd.prog) (G := 6) (b := B79b) (N := 70) (k := 7) (st := st79b) (hp := hp79 cs1 t1 s1 e1 cs2 t2 s2 e2 n1 c1 n c) (lF := []) (lR := fun e => [(2, i e)]) (x := .exit 2) n (drE cs2) (fun h => by cases h)
      (fun j ro hj he => f79b_round h1.1 h2 j ro hj he) (fun j ro hj he => f79b_ret h1.1 h2 j ro hj he) (f79b_end h1.1 h2.1) ro hk (by omega) hst
    exact two_ends_sel (p := fun r => Sound Tryd.prog 6 (.code (.loop B79b) ro tm0 H0 []) r) hr g1 g2
theorem f79_small (h1 : OkI cs1 n1 c1) (h2 : OkI cs2 n c) :
    ∃ H', Sound Tryd.prog 6 (.call Fn.ref03_CheckPolar ⟨[polV n1 c1 n c]⟩ (hp118 cs1 t1 s1 e1 cs2 t2 s2 e2)) (.val (i (polE cs1 n1 cs2 n)) H') := by
  let C : Cfg := ⟨TA, spC', syC, L79 cs1 cs2 t1 s1 t2 s2 e1 e2 n1 c1 n c⟩
  obtain ⟨H', hs⟩ := Out.vals_sel (o := execO Tryd.prog 6 C 40 (.call Fn.ref03_CheckPolar ⟨[polV n1 c1 n c]⟩ (hp118 cs1 t1 s1 e1 cs2 t2 s2 e2))) (v := i (polE cs1 n1 cs2 n)) (by kernel_rfl) (by
    rw [show (execO Tryd.prog 6 C 40 (.call Fn.ref03_CheckPolar ⟨[polV n1 c1 n c]⟩ (hp118 cs1 t1 s1 e1 cs2 t2 s2 e2))).vals =
      .br (eqF n1 0) (.leaf (i 12)) (.br (ltF 32 n1) (.leaf (i 5)) (.br (!eqF n n1) (.leaf (i 2)) (.br (decide (firstF (riE cs1 1000) n1 0 = 0)) (.br (decide (firstF (drE cs2) n 0 = 0)) (.leaf (i 0)) (.leaf (i (firstF (drE cs2) n 0)))) (.leaf (i (firstF (riE cs1 1000) n1 0)))))) from by kernel_rfl]
    rw [eqF_d, ltF_eq, eqF_d, brD, brD, brN, brD, brD]
    unfold polE
    by_cases a1 : (n1 : Int) = 0
    · rw [if_pos a1, if_pos a1]; rfl
    rw [if_neg a1, if_neg a1]
    by_cases a2 : (32 : Int) < n1
    · rw [if_pos a2, if_pos a2]; rfl
    rw [if_neg a2, if_neg a2]
    by_cases a3 : (n1 : Int) = n
    · rw [if_pos a3.symm, if_pos a3]
      unfold firstE
      by_cases a4 : firstF (riE cs1 1000) n1 0 = 0
      · rw [if_pos a4, if_pos a4]
        by_cases a5 : firstF (drE cs2) n 0 = 0
        · rw [if_pos a5, a5]; rfl
        · rw [if_neg a5]; rfl
      · rw [if_neg a4, if_neg a4]; rfl
    · rw [if_neg (fun h => a3 h.symm), if_neg a3]; rfl)
  exact ⟨H', execO_sound (C := C) tsTA (ls79 h1 h2) 40 _ _ hs⟩
end
/-! ### the table with polars -/
def rdPol : List Value → Option (List Nat × (Nat × Nat × Nat × Nat))
  | [.agg ⟨[.slice (some ⟨b1, 0, none⟩) n1 c1, .slice (some ⟨b2, 0, none⟩) n c]⟩] => some ([b1, b2], n1, c1, n, c)
  | _ => none
def okPol (a : Nat × Nat × Nat × Nat) : List (List Value) → Prop
  | [cs1, cs2] => OkI cs1 a.1 a.2.1 ∧ OkI cs2 a.2.2.1 a.2.2.2
  | _ => False
def valPol (a : Nat × Nat × Nat × Nat) : List (List Value) → Value
  | [cs1, cs2] => i (polE cs1 a.1 cs2 a.2.2.1)
  | _ => i 0
theorem blks2 {cs1 cs2 : List Value} {os : List CO} (h : Blks [cs1, cs2] os) : ∃ t1 s1 e1 t2 s2 e2, os = [.cells cs1 t1 s1 e1, .cells cs2 t2 s2 e2] := by
  cases h with
  | cons h =>
    obtain ⟨t, s, ex, rfl⟩ := blks1 h
    exact ⟨_, _, _, _, _, _, rfl⟩
theorem rdPol_ok : ∀ args bs a, rdPol args = some (bs, a) → ([polV a.1 a.2.1 a.2.2.1 a.2.2.2]).all (renOk (List.range gl ++ bs) 8) = true ∧ args = ([polV a.1 a.2.1 a.2.2.1 a.2.2.2]).map (ren (List.range gl ++ bs) 8) := by
  intro args bs a h
  unfold rdPol at h
  split at h
  · cases h; exact ⟨rfl, rfl⟩
  · cases h
theorem okPol_flat : ∀ a css, okPol a css → ∀ cs ∈ css, cs.all Ex.flat = true := by
  intro a css h cs hc
  unfold okPol at h
  split at h
  · simp at hc
    rcases hc with rfl | rfl
    · exact h.1.1
    · exact h.2.1
  · cases h
theorem valPol_clean : ∀ a css, okPol a css → clean 6 (valPol a css) = true := by
  intro a css h
  unfold okPol at h
  split at h
  · rfl
  · cases h
noncomputable def TB : Tb := ext (ext TA Fn.rotor_CheckPolar (rdE rdPol okPol valPol [] (heapL deads))) Fn.ref03_CheckPolar (rdE rdPol okPol valPol [] (heapL deads))
theorem tsTB {G : Nat} : TSound Tryd.prog G TB := by
  refine (tsTA.ext (rd_ok (fun a => [polV a.1 a.2.1 a.2.2.1 a.2.2.2]) deads_len deads_flat deads_mem rdPol_ok okPol_flat valPol_clean ?_)).ext (rd_ok (fun a => [polV a.1 a.2.1 a.2.2.1 a.2.2.2]) deads_len deads_flat deads_mem rdPol_ok okPol_flat valPol_clean ?_)
  · intro a css os h hb
    unfold okPol at h
    split at h
    · obtain ⟨t1, s1, e1, t2, s2, e2, rfl⟩ := blks2 hb
      exact f118_small h.1 h.2
    · cases h
  · intro a css os h hb
    unfold okPol at h
    split at h
    · obtain ⟨t1, s1, e1, t2, s2, e2, rfl⟩ := blks2 hb
      exact f79_small h.1 h.2
    · cases h
end Go.Proofs.YtbocpikgochioaaDoor.Ways
namespace Go.Proofs.YtbocpikgochioaaDoor.Ways
open Go Go.Ex
/-! ### rings, flows, inductions -/
noncomputable def CD : Cfg := ⟨TB, no_, off_, noL⟩
theorem tsD {G : Nat} : TSound Tryd.prog G CD.T := tsTB
theorem wa4 {L : List Int} (h : L.length ≤ 1000000) : (askFst L fun e => .leaf (i e)).sel = some (i (firstL L)) := by rw [askFst_sel h]; rfl
def ring4E (r c t p : Int) : Int := firstL [rangeE r 1 200, rangeE c 1 100, rangeE t (-64) 64, rangeE p 0 256]
theorem ring_pure (r c t p : Int) : Pure Tryd.prog Hd Fn.rotor_checkRing [ag [i r, i c, i t, i p]] (i (ring4E r c t p)) :=
  pure_run (C := CD) (G := 4) 30 (askFst [rangeE r 1 200, rangeE c 1 100, rangeE t (-64) 64, rangeE p 0 256] fun e => .leaf (i e)) tsD .none (by decide) hd_len rfl (by kernel_rfl) (by kernel_rfl) (wa4 (by simp))
def flowE (w s p : Int) : Int := firstL [rangeE w 1 50, rangeE s 1 1000, rangeE p (-64) 64]
theorem flow_pure (w s p : Int) : Pure Tryd.prog Hd Fn.rotor_CheckFlow [ag [i w, i s, i p]] (i (flowE w s p)) :=
  pure_run (C := CD) (G := 4) 30 (askFst [rangeE w 1 50, rangeE s 1 1000, rangeE p (-64) 64] fun e => .leaf (i e)) tsD .none (by decide) hd_len rfl (by kernel_rfl) (by kernel_rfl) (wa4 (by simp))
theorem rflow_pure (w s p : Int) : Pure Tryd.prog Hd Fn.ref03_CheckFlow [ag [i w, i s, i p]] (i (flowE w s p)) :=
  pure_run (C := CD) (G := 4) 30 (askFst [rangeE w 1 50, rangeE s 1 1000, rangeE p (-64) 64] fun e => .leaf (i e)) tsD .none (by decide) hd_len rfl (by kernel_rfl) (by kernel_rfl) (wa4 (by simp))
def powE (d : Int) : Int := 2 ^ d.toNat
def rdPw : List Value → Option (List Nat × Int)
  | [.int .i64 n] => some ([], n)
  | _ => none
def okPw (a : Int) : List (List Value) → Prop
  | [] => 0 ≤ a ∧ a ≤ 12
  | _ => False
def rdPt : List Value → Option (List Nat × (Int × Int))
  | [.agg ⟨[.int .i64 a, .int .i64 d]⟩] => some ([], a, d)
  | _ => none
def okPt (a : Int × Int) : List (List Value) → Prop
  | [] => 1 ≤ a.2 ∧ a.2 ≤ 12
  | _ => False
theorem one_leaf {P : Program} {G : Nat} {C : Cfg} {n : Nat} {f : FuncId} {al : List Value} {H : CH} {v : Value} (hT : TSound P G C.T) (hL : LSound P G C.L) (h1 : execO P G C n (.call f ⟨al⟩ H) = (execO P G C n (.call f ⟨al⟩ H)).fix) (h2 : (execO P G C n (.call f ⟨al⟩ H)).vals.sel = some v) : ∃ H', Sound P G (.call f ⟨al⟩ H) (.val v H') := by
  obtain ⟨H', hs⟩ := Out.vals_sel h1 h2
  exact ⟨H', execO_sound hT hL n _ _ hs⟩
theorem parts_small : ∀ a d : Int, 1 ≤ d ∧ d ≤ 12 → ∃ H', Sound Tryd.prog 4 (.call Fn.rotor_Induction_parts ⟨[ag [i a, i d]]⟩ (heapL (deads ++ []))) (.val (i (powE d)) H') := by
  intro a d h
  have : d = 1 ∨ d = 2 ∨ d = 3 ∨ d = 4 ∨ d = 5 ∨ d = 6 ∨ d = 7 ∨ d = 8 ∨ d = 9 ∨ d = 10 ∨ d = 11 ∨ d = 12 := by omega
  rcases this with rfl | rfl | rfl | rfl | rfl | rfl | rfl | rfl | rfl | rfl | rfl | rfl <;> exact one_leaf (C := CD) (n := 30) tsD .none (by kernel_rfl) (by kernel_rfl)
noncomputable def TD1 : Tb := ext TB Fn.rotor_Induction_parts (rdE rdPt okPt (fun a _ => i (powE a.2)) [] (heapL deads))
theorem blks0 {os : List CO} (h : Blks [] os) : os = [] := by cases h; rfl
theorem tsD1 {G : Nat} : TSound Tryd.prog G TD1 := by
  refine tsTB.ext (rd_ok (fun a => [ag [i a.1, i a.2]]) deads_len deads_flat deads_mem ?_ ?_ (fun _ _ _ => rfl) ?_)
  · intro args bs a h
    unfold rdPt at h
    split at h
    · cases h; exact ⟨rfl, rfl⟩
    · cases h
  · intro a css h cs hc
    unfold okPt at h
    split at h
    · cases hc
    · cases h
  · intro a css os h hb
    unfold okPt at h
    split at h
    · rw [blks0 hb]; exact parts_small a.1 a.2 h
    · cases h
def spD : Nat → Nat → Split := at_ [(Fn.rotor_checkInduction, 8), (Fn.ref03_CheckInduction, 8)] .bool no_
noncomputable def CD1 : Cfg := ⟨TD1, spD, off_, noL⟩
def indE (a d : Int) : Int := if rangeE d 1 12 = 0 then rangeE a 0 (powE (d - 1)) else rangeE d 1 12
theorem range_z {n lo hi : Int} (h : rangeE n lo hi = 0) : lo ≤ n ∧ n ≤ hi := by
  unfold rangeE at h
  split at h
  · cases h
  · omega
theorem pow_half {d : Int} (h : 1 ≤ d ∧ d ≤ 12) : IntKind.i64.wrap ((powE d).tdiv 2) = powE (d - 1) := by
  have : d = 1 ∨ d = 2 ∨ d = 3 ∨ d = 4 ∨ d = 5 ∨ d = 6 ∨ d = 7 ∨ d = 8 ∨ d = 9 ∨ d = 10 ∨ d = 11 ∨ d = 12 := by omega
  rcases this with rfl | rfl | rfl | rfl | rfl | rfl | rfl | rfl | rfl | rfl | rfl | rfl <;> decide
theorem ind_pure (a d : Int) : Pure Tryd.prog Hd Fn.rotor_checkInduction [ag [i a, i d]] (i (indE a d)) := by
  refine pure_run (C := CD1) (G := 4) 30 (.br (!eqF (rangeE d 1 12) 0) (.leaf (i (rangeE d 1 12))) (askB (tru (okPt (a, d) [])) (.leaf (i (rangeE a 0 (IntKind.i64.wrap ((powE d).tdiv 2))))))) tsD1 .none (by decide) hd_len rfl (by kernel_rfl) (by kernel_rfl) ?_
  rw [eqF_d, brN]
  unfold indE
  by_cases h : rangeE d 1 12 = 0
  · rw [if_pos h, if_pos h, askB_sel (tru_iff.2 (show okPt (a, d) [] from range_z h)), pow_half (range_z h)]; rfl
  · rw [if_neg h, if_neg h]; rfl
def ring4S : List Value → Option Value
  | [.agg ⟨[.int .i64 r, .int .i64 c, .int .i64 t, .int .i64 p]⟩] => some (i (ring4E r c t p))
  | _ => none
def flowS : List Value → Option Value
  | [.agg ⟨[.int .i64 w, .int .i64 s, .int .i64 p]⟩] => some (i (flowE w s p))
  | _ => none
def indS : List Value → Option Value
  | [.agg ⟨[.int .i64 a, .int .i64 d]⟩] => some (i (indE a d))
  | _ => none
noncomputable def TD : Tb := ext (ext (ext (ext TD1 Fn.rotor_checkRing (pureE ring4S [] Hd)) Fn.rotor_CheckFlow (pureE flowS [] Hd)) Fn.ref03_CheckFlow (pureE flowS [] Hd)) Fn.rotor_checkInduction (pureE indS [] Hd)
theorem tsTD {G : Nat} : TSound Tryd.prog G TD := by
  refine ((((tsD1.pure hd_vars fun args v h => ?_).pure hd_vars fun args v h => ?_).pure hd_vars fun args v h => ?_).pure hd_vars fun args v h => ?_)
  · unfold ring4S at h
    split at h
    · cases h; exact ring_pure _ _ _ _
    · cases h
  · unfold flowS at h
    split at h
    · cases h; exact flow_pure _ _ _
    · cases h
  · unfold flowS at h
    split at h
    · cases h; exact rflow_pure _ _ _
    · cases h
  · unfold indS at h
    split at h
    · cases h; exact ind_pure _ _
    · cases h
end Go.Proofs.YtbocpikgochioaaDoor.Ways
namespace Go.Proofs.YtbocpikgochioaaDoor.Ways
open Go Go.Ex
/-! ### blades -/
def ringC (ρ : Nat → Int) (n : Nat) : List Value := (List.range (n * 4)).map fun k => i (ρ k)
def r4E (ρ : Nat → Int) (j : Nat) : Int := ring4E (ρ (4 * j)) (ρ (4 * j + 1)) (ρ (4 * j + 2)) (ρ (4 * j + 3))
def rbE (ρ : Nat → Int) : Nat → Int
  | 0 => 0
  | j + 1 => ρ (4 * j)
def rngE (ρ : Nat → Int) (j : Nat) : Int := if r4E ρ j = 0 then (if ρ (4 * j) ≤ rbE ρ j then 11 else 0) else r4E ρ j
def bladeE (cs1 : List Value) (n1 : Nat) (cs2 : List Value) (n2 : Nat) (ρ : Nat → Int) (n : Nat) : Int :=
  if polE cs1 n1 cs2 n2 = 0 then (if n = 0 then 12 else if 16 < n then 5 else firstF (rngE ρ) n 0) else polE cs1 n1 cs2 n2
def rtree (ρ : Nat → Int) : Nat → Nat → VT
  | 0, _ => .leaf (i 0)
  | m + 1, j => .br (!eqF (r4E ρ j) 0) (.leaf (i (r4E ρ j))) (.br (leF (ρ (4 * j)) (rbE ρ j)) (.leaf (i 11)) (rtree ρ m (j + 1)))
def rprev (ρ : Nat → Int) : Nat → Bool
  | 0 => false
  | j + 1 => leF (ρ (4 * (j + 1))) (ρ (4 * j))
noncomputable def rtreeR (ρ : Nat → Int) : Nat → Nat → VT
  | 0, _ => .leaf (i 0)
  | m + 1, j => askFst [rangeE (ρ (4 * j)) 1 200, rangeE (ρ (4 * j + 1)) 1 100, rangeE (ρ (4 * j + 2)) (-64) 64, rangeE (ρ (4 * j + 3)) 0 256] fun e => .br (!eqF e 0) (.leaf (i e)) (.br (rprev ρ j) (.leaf (i 11)) (rtreeR ρ m (j + 1)))
theorem leF_d (a b : Int) : leF a b = decide (a ≤ b) := leF_eq a b
theorem rtree_sel (ρ : Nat → Int) : ∀ m j, (rtree ρ m j).sel = some (i (firstF (rngE ρ) m j))
  | 0, _ => rfl
  | m + 1, j => by
    unfold rtree
    rw [eqF_d, leF_d, brN, brD, rtree_sel ρ m (j + 1)]
    show _ = some (i (if rngE ρ j ≠ 0 then rngE ρ j else firstF (rngE ρ) m (j + 1)))
    unfold rngE
    by_cases h1 : r4E ρ j = 0
    · by_cases h2 : ρ (4 * j) ≤ rbE ρ j
      · simp [h1, h2, VT.sel]
      · simp [h1, h2]
    · simp [h1, VT.sel]
theorem r4_pos {ρ : Nat → Int} {j : Nat} (h : r4E ρ j = 0) : 1 ≤ ρ (4 * j) := by
  unfold r4E ring4E firstL firstE at h
  by_cases h1 : rangeE (ρ (4 * j)) 1 200 = 0
  · exact (range_z h1).1
  · rw [if_neg h1] at h; exact absurd h h1
theorem rtreeR_sel (ρ : Nat → Int) : ∀ m j, (rtreeR ρ m j).sel = some (i (firstF (rngE ρ) m j))
  | 0, _ => rfl
  | m + 1, j => by
    unfold rtreeR
    rw [askFst_sel (by simp)]
    show (VT.br (!eqF (r4E ρ j) 0) (.leaf (i (r4E ρ j))) (.br (rprev ρ j) (.leaf (i 11)) (rtreeR ρ m (j + 1)))).sel = some (i (if rngE ρ j ≠ 0 then rngE ρ j else firstF (rngE ρ) m (j + 1)))
    rw [eqF_d, brN, brB, rtreeR_sel ρ m (j + 1)]
    unfold rngE
    by_cases h1 : r4E ρ j = 0
    · have hp := r4_pos h1
      have hr : rprev ρ j = decide (ρ (4 * j) ≤ rbE ρ j) := by
        cases j with
        | zero =>
          have : ¬ ρ (4 * 0) ≤ rbE ρ 0 := by show ¬ _ ≤ (0 : Int); omega
          rw [decide_eq_false this]; rfl
        | succ k => exact leF_d _ _
      rw [hr]
      by_cases h2 : ρ (4 * j) ≤ rbE ρ j
      · simp [h1, h2, VT.sel]
      · simp [h1, h2]
    · simp [h1, VT.sel]
def spE : Nat → Nat → Split := at_ [(Fn.rotor_CheckBlade, 13), (Fn.rotor_CheckBlade, 34), (Fn.rotor_CheckBlade, 39), (Fn.ref03_CheckBlade, 11), (Fn.ref03_CheckBlade, 48), (Fn.ref03_CheckBlade, 63)] .bool no_
noncomputable def CE : Cfg := ⟨TD, spE, off_, noL⟩
theorem tsE {G : Nat} : TSound Tryd.prog G CE.T := tsTD
def blV (n1 c1 n2 c2 : Nat) (R : Value) : Value := ag [sl 4 0 n1 c1, sl 5 0 n2 c2, R]
noncomputable def hpB (cs1 : List Value) (t1 s1 : Nat) (e1 : Bool) (cs2 : List Value) (t2 s2 : Nat) (e2 : Bool) (cs3 : List Value) (t3 s3 : Nat) (e3 : Bool) : CH := heapL (deads ++ [.cells cs1 t1 s1 e1, .cells cs2 t2 s2 e2, .cells cs3 t3 s3 e3])
noncomputable def btree (cs1 : List Value) (n1 c1 : Nat) (cs2 : List Value) (n2 c2 : Nat) (X : VT) : VT := askB (tru (okPol (n1, c1, n2, c2) [cs1, cs2])) (.br (!eqF (polE cs1 n1 cs2 n2) 0) (.leaf (i (polE cs1 n1 cs2 n2))) X)
theorem btree_sel {cs1 : List Value} {n1 c1 : Nat} {cs2 : List Value} {n2 c2 : Nat} {X : VT} {ρ : Nat → Int} {n : Nat} (h : OkI cs1 n1 c1 ∧ OkI cs2 n2 c2) (hX : X.sel = some (i (if n = 0 then 12 else if 16 < n then 5 else firstF (rngE ρ) n 0))) : (btree cs1 n1 c1 cs2 n2 c2 X).sel = some (i (bladeE cs1 n1 cs2 n2 ρ n)) := by
  unfold btree
  rw [askB_sel (tru_iff.2 (show okPol (n1, c1, n2, c2) [cs1, cs2] from h)), eqF_d, brN, hX]
  unfold bladeE
  by_cases hp : polE cs1 n1 cs2 n2 = 0
  · rw [if_pos hp, if_pos hp]
  · rw [if_neg hp, if_neg hp]; rfl
section
variable {cs1 cs2 : List Value} {t1 s1 t2 s2 t3 s3 : Nat} {e1 e2 e3 : Bool} {n1 c1 n2 c2 : Nat} (ρ : Nat → Int)
theorem f97_0 (h : OkI cs1 n1 c1 ∧ OkI cs2 n2 c2) : ∃ H', Sound Tryd.prog 7 (.call Fn.rotor_CheckBlade ⟨[blV n1 c1 n2 c2 (sl 6 0 0 0)]⟩ (hpB cs1 t1 s1 e1 cs2 t2 s2 e2 (ringC ρ 0) t3 s3 e3)) (.val (i (bladeE cs1 n1 cs2 n2 ρ 0)) H') := by
  refine one_leaf (C := CE) (n := 40) tsE .none (by kernel_rfl) ?_
  rw [show (execO Tryd.prog 7 CE 40 (.call Fn.rotor_CheckBlade ⟨[blV n1 c1 n2 c2 (sl 6 0 0 0)]⟩ (hpB cs1 t1 s1 e1 cs2 t2 s2 e2 (ringC ρ 0) t3 s3 e3))).vals = btree cs1 n1 c1 cs2 n2 c2 (.leaf (i 12)) from by kernel_rfl]
  exact btree_sel h (rfl)
theorem f97_1 (h : OkI cs1 n1 c1 ∧ OkI cs2 n2 c2) : ∃ H', Sound Tryd.prog 7 (.call Fn.rotor_CheckBlade ⟨[blV n1 c1 n2 c2 (sl 6 0 1 1)]⟩ (hpB cs1 t1 s1 e1 cs2 t2 s2 e2 (ringC ρ 1) t3 s3 e3)) (.val (i (bladeE cs1 n1 cs2 n2 ρ 1)) H') := by
  refine one_leaf (C := CE) (n := 40) tsE .none (by kernel_rfl) ?_
  rw [show (execO Tryd.prog 7 CE 40 (.call Fn.rotor_CheckBlade ⟨[blV n1 c1 n2 c2 (sl 6 0 1 1)]⟩ (hpB cs1 t1 s1 e1 cs2 t2 s2 e2 (ringC ρ 1) t3 s3 e3))).vals = btree cs1 n1 c1 cs2 n2 c2 (rtree ρ 1 0) from by kernel_rfl]
  exact btree_sel h (rtree_sel ρ 1 0)
theorem f97_2 (h : OkI cs1 n1 c1 ∧ OkI cs2 n2 c2) : ∃ H', Sound Tryd.prog 7 (.call Fn.rotor_CheckBlade ⟨[blV n1 c1 n2 c2 (sl 6 0 2 2)]⟩ (hpB cs1 t1 s1 e1 cs2 t2 s2 e2 (ringC ρ 2) t3 s3 e3)) (.val (i (bladeE cs1 n1 cs2 n2 ρ 2)) H') := by
  refine one_leaf (C := CE) (n := 40) tsE .none (by kernel_rfl) ?_
  rw [show (execO Tryd.prog 7 CE 40 (.call Fn.rotor_CheckBlade ⟨[blV n1 c1 n2 c2 (sl 6 0 2 2)]⟩ (hpB cs1 t1 s1 e1 cs2 t2 s2 e2 (ringC ρ 2) t3 s3 e3))).vals = btree cs1 n1 c1 cs2 n2 c2 (rtree ρ 2 0) from by kernel_rfl]
  exact btree_sel h (rtree_sel ρ 2 0)
theorem f97_3 (h : OkI cs1 n1 c1 ∧ OkI cs2 n2 c2) : ∃ H', Sound Tryd.prog 7 (.call Fn.rotor_CheckBlade ⟨[blV n1 c1 n2 c2 (sl 6 0 3 3)]⟩ (hpB cs1 t1 s1 e1 cs2 t2 s2 e2 (ringC ρ 3) t3 s3 e3)) (.val (i (bladeE cs1 n1 cs2 n2 ρ 3)) H') := by
  refine one_leaf (C := CE) (n := 40) tsE .none (by kernel_rfl) ?_
  rw [show (execO Tryd.prog 7 CE 40 (.call Fn.rotor_CheckBlade ⟨[blV n1 c1 n2 c2 (sl 6 0 3 3)]⟩ (hpB cs1 t1 s1 e1 cs2 t2 s2 e2 (ringC ρ 3) t3 s3 e3))).vals = btree cs1 n1 c1 cs2 n2 c2 (rtree ρ 3 0) from by kernel_rfl]
  exact btree_sel h (rtree_sel ρ 3 0)
theorem f97_17 (h : OkI cs1 n1 c1 ∧ OkI cs2 n2 c2) : ∃ H', Sound Tryd.prog 7 (.call Fn.rotor_CheckBlade ⟨[blV n1 c1 n2 c2 (sl 6 0 17 17)]⟩ (hpB cs1 t1 s1 e1 cs2 t2 s2 e2 (ringC ρ 17) t3 s3 e3)) (.val (i (bladeE cs1 n1 cs2 n2 ρ 17)) H') := by
  refine one_leaf (C := CE) (n := 40) tsE .none (by kernel_rfl) ?_
  rw [show (execO Tryd.prog 7 CE 40 (.call Fn.rotor_CheckBlade ⟨[blV n1 c1 n2 c2 (sl 6 0 17 17)]⟩ (hpB cs1 t1 s1 e1 cs2 t2 s2 e2 (ringC ρ 17) t3 s3 e3))).vals = btree cs1 n1 c1 cs2 n2 c2 (.leaf (i 5)) from by kernel_rfl]
  exact btree_sel h (rfl)
theorem f33_0 (h : OkI cs1 n1 c1 ∧ OkI cs2 n2 c2) : ∃ H', Sound Tryd.prog 7 (.call Fn.ref03_CheckBlade ⟨[blV n1 c1 n2 c2 (sl 6 0 0 0)]⟩ (hpB cs1 t1 s1 e1 cs2 t2 s2 e2 (ringC ρ 0) t3 s3 e3)) (.val (i (bladeE cs1 n1 cs2 n2 ρ 0)) H') := by
  refine one_leaf (C := CE) (n := 40) tsE .none (by kernel_rfl) ?_
  rw [show (execO Tryd.prog 7 CE 40 (.call Fn.ref03_CheckBlade ⟨[blV n1 c1 n2 c2 (sl 6 0 0 0)]⟩ (hpB cs1 t1 s1 e1 cs2 t2 s2 e2 (ringC ρ 0) t3 s3 e3))).vals = btree cs1 n1 c1 cs2 n2 c2 (.leaf (i 12)) from by kernel_rfl]
  exact btree_sel h (rfl)
theorem f33_1 (h : OkI cs1 n1 c1 ∧ OkI cs2 n2 c2) : ∃ H', Sound Tryd.prog 7 (.call Fn.ref03_CheckBlade ⟨[blV n1 c1 n2 c2 (sl 6 0 1 1)]⟩ (hpB cs1 t1 s1 e1 cs2 t2 s2 e2 (ringC ρ 1) t3 s3 e3)) (.val (i (bladeE cs1 n1 cs2 n2 ρ 1)) H') := by
  refine one_leaf (C := CE) (n := 40) tsE .none (by kernel_rfl) ?_
  rw [show (execO Tryd.prog 7 CE 40 (.call Fn.ref03_CheckBlade ⟨[blV n1 c1 n2 c2 (sl 6 0 1 1)]⟩ (hpB cs1 t1 s1 e1 cs2 t2 s2 e2 (ringC ρ 1) t3 s3 e3))).vals = btree cs1 n1 c1 cs2 n2 c2 (rtreeR ρ 1 0) from by kernel_rfl]
  exact btree_sel h (rtreeR_sel ρ 1 0)
theorem f33_2 (h : OkI cs1 n1 c1 ∧ OkI cs2 n2 c2) : ∃ H', Sound Tryd.prog 7 (.call Fn.ref03_CheckBlade ⟨[blV n1 c1 n2 c2 (sl 6 0 2 2)]⟩ (hpB cs1 t1 s1 e1 cs2 t2 s2 e2 (ringC ρ 2) t3 s3 e3)) (.val (i (bladeE cs1 n1 cs2 n2 ρ 2)) H') := by
  refine one_leaf (C := CE) (n := 40) tsE .none (by kernel_rfl) ?_
  rw [show (execO Tryd.prog 7 CE 40 (.call Fn.ref03_CheckBlade ⟨[blV n1 c1 n2 c2 (sl 6 0 2 2)]⟩ (hpB cs1 t1 s1 e1 cs2 t2 s2 e2 (ringC ρ 2) t3 s3 e3))).vals = btree cs1 n1 c1 cs2 n2 c2 (rtreeR ρ 2 0) from by kernel_rfl]
  exact btree_sel h (rtreeR_sel ρ 2 0)
theorem f33_3 (h : OkI cs1 n1 c1 ∧ OkI cs2 n2 c2) : ∃ H', Sound Tryd.prog 7 (.call Fn.ref03_CheckBlade ⟨[blV n1 c1 n2 c2 (sl 6 0 3 3)]⟩ (hpB cs1 t1 s1 e1 cs2 t2 s2 e2 (ringC ρ 3) t3 s3 e3)) (.val (i (bladeE cs1 n1 cs2 n2 ρ 3)) H') := by
  refine one_leaf (C := CE) (n := 40) tsE .none (by kernel_rfl) ?_
  rw [show (execO Tryd.prog 7 CE 40 (.call Fn.ref03_CheckBlade ⟨[blV n1 c1 n2 c2 (sl 6 0 3 3)]⟩ (hpB cs1 t1 s1 e1 cs2 t2 s2 e2 (ringC ρ 3) t3 s3 e3))).vals = btree cs1 n1 c1 cs2 n2 c2 (rtreeR ρ 3 0) from by kernel_rfl]
  exact btree_sel h (rtreeR_sel ρ 3 0)
theorem f33_17 (h : OkI cs1 n1 c1 ∧ OkI cs2 n2 c2) : ∃ H', Sound Tryd.prog 7 (.call Fn.ref03_CheckBlade ⟨[blV n1 c1 n2 c2 (sl 6 0 17 17)]⟩ (hpB cs1 t1 s1 e1 cs2 t2 s2 e2 (ringC ρ 17) t3 s3 e3)) (.val (i (bladeE cs1 n1 cs2 n2 ρ 17)) H') := by
  refine one_leaf (C := CE) (n := 40) tsE .none (by kernel_rfl) ?_
  rw [show (execO Tryd.prog 7 CE 40 (.call Fn.ref03_CheckBlade ⟨[blV n1 c1 n2 c2 (sl 6 0 17 17)]⟩ (hpB cs1 t1 s1 e1 cs2 t2 s2 e2 (ringC ρ 17) t3 s3 e3))).vals = btree cs1 n1 c1 cs2 n2 c2 (.leaf (i 5)) from by kernel_rfl]
  exact btree_sel h (rfl)
theorem f97_nil (h : OkI cs1 n1 c1 ∧ OkI cs2 n2 c2) : ∃ H', Sound Tryd.prog 6 (.call Fn.rotor_CheckBlade ⟨[blV n1 c1 n2 c2 (.slice none 0 0)]⟩ (hp118 cs1 t1 s1 e1 cs2 t2 s2 e2)) (.val (i (bladeE cs1 n1 cs2 n2 ρ 0)) H') := by
  refine one_leaf (C := CE) (n := 40) tsE .none (by kernel_rfl) ?_
  rw [show (execO Tryd.prog 6 CE 40 (.call Fn.rotor_CheckBlade ⟨[blV n1 c1 n2 c2 (.slice none 0 0)]⟩ (hp118 cs1 t1 s1 e1 cs2 t2 s2 e2))).vals = btree cs1 n1 c1 cs2 n2 c2 (.leaf (i 12)) from by kernel_rfl]
  exact btree_sel h rfl
end
/-- what is known of a blade -/
structure BlA where
  n1 : Nat
  c1 : Nat
  n2 : Nat
  c2 : Nat
  n : Nat
  c : Nat
  nil : Bool
def BlA.val (a : BlA) : Value := blV a.n1 a.c1 a.n2 a.c2 (match a.nil with
  | true => .slice none 0 0
  | false => sl 6 0 a.n a.c)
def rdB : Value → Option (List Nat × BlA)
  | .agg ⟨[.slice (some ⟨b1, 0, none⟩) n1 c1, .slice (some ⟨b2, 0, none⟩) n2 c2, .slice (some ⟨b3, 0, none⟩) n c]⟩ => some ([b1, b2, b3], ⟨n1, c1, n2, c2, n, c, false⟩)
  | .agg ⟨[.slice (some ⟨b1, 0, none⟩) n1 c1, .slice (some ⟨b2, 0, none⟩) n2 c2, .slice none 0 0]⟩ => some ([b1, b2], ⟨n1, c1, n2, c2, 0, 0, true⟩)
  | _ => none
def rhoE (cs : List Value) (k : Nat) : Int := intO cs[k]?
def five (n : Nat) : Prop := n = 0 ∨ n = 1 ∨ n = 2 ∨ n = 3 ∨ n = 17
def okB (a : BlA) : List (List Value) → Prop
  | [cs1, cs2, cs3] => a.nil = false ∧ (OkI cs1 a.n1 a.c1 ∧ OkI cs2 a.n2 a.c2) ∧ five a.n ∧ a.c = a.n ∧ cs3 = ringC (rhoE cs3) a.n
  | [cs1, cs2] => a.nil = true ∧ a.n = 0 ∧ OkI cs1 a.n1 a.c1 ∧ OkI cs2 a.n2 a.c2
  | _ => False
def errB (a : BlA) : List (List Value) → Int
  | [cs1, cs2, cs3] => bladeE cs1 a.n1 cs2 a.n2 (rhoE cs3) a.n
  | [cs1, cs2] => bladeE cs1 a.n1 cs2 a.n2 (rhoE []) 0
  | _ => 0
theorem ringC_flat (ρ : Nat → Int) (n : Nat) : (ringC ρ n).all Ex.flat = true := by
  refine List.all_eq_true.2 fun x hx => ?_
  obtain ⟨k, _, rfl⟩ := List.mem_map.1 hx; rfl
theorem rho_ringC (ρ : Nat → Int) (n : Nat) {k : Nat} (h : k < n * 4) : rhoE (ringC ρ n) k = ρ k := by
  unfold rhoE ringC
  rw [List.getElem?_map, List.getElem?_range h]; rfl
theorem ringC_self (ρ : Nat → Int) (n : Nat) : ringC ρ n = ringC (rhoE (ringC ρ n)) n := by
  conv => lhs; unfold ringC
  conv => rhs; unfold ringC
  refine List.map_congr_left fun k hk => ?_
  rw [List.mem_range] at hk
  show i (ρ k) = i (rhoE (ringC ρ n) k)
  rw [rho_ringC ρ n hk]
theorem blks3 {cs1 cs2 cs3 : List Value} {os : List CO} (h : Blks [cs1, cs2, cs3] os) : ∃ t1 s1 e1 t2 s2 e2 t3 s3 e3, os = [.cells cs1 t1 s1 e1, .cells cs2 t2 s2 e2, .cells cs3 t3 s3 e3] := by
  cases h with
  | cons h =>
    obtain ⟨_, _, _, _, _, _, rfl⟩ := blks2 h
    exact ⟨_, _, _, _, _, _, _, _, _, rfl⟩
theorem rdB_ok {v : Value} {bs : List Nat} {a : BlA} (h : rdB v = some (bs, a)) : renOk (List.range gl ++ bs) 8 a.val = true ∧ v = ren (List.range gl ++ bs) 8 a.val := by
  unfold rdB at h
  split at h
  · cases h; exact ⟨rfl, rfl⟩
  · cases h; exact ⟨rfl, rfl⟩
  · cases h
theorem okB_flat : ∀ a css, okB a css → ∀ cs ∈ css, cs.all Ex.flat = true := by
  intro a css h cs hc
  unfold okB at h
  split at h
  · obtain ⟨_, h1, _, _, h3⟩ := h
    simp at hc
    rcases hc with rfl | rfl | rfl
    · exact h1.1.1
    · exact h1.2.1
    · rw [h3]; exact ringC_flat _ _
  · obtain ⟨_, _, h1, h2⟩ := h
    simp at hc
    rcases hc with rfl | rfl
    · exact h1.1
    · exact h2.1
  · cases h
def rdBl : List Value → Option (List Nat × BlA)
  | [v] => rdB v
  | _ => none
theorem f97_small : ∀ a css os, okB a css → Blks css os → ∃ H', Sound Tryd.prog (gl + css.length) (.call Fn.rotor_CheckBlade ⟨[a.val]⟩ (heapL (deads ++ os))) (.val (i (errB a css)) H') := by
  intro a css os h hb
  obtain ⟨n1, c1, n2, c2, n, c, nl⟩ := a
  unfold okB at h
  split at h
  · rename_i cs1 cs2 cs3
    dsimp only at h
    obtain ⟨rfl, h12, h5, rfl, h3⟩ := h
    obtain ⟨t1, s1, e1, t2, s2, e2, t3, s3, e3, rfl⟩ := blks3 hb
    rcases h5 with rfl | rfl | rfl | rfl | rfl
    · have := f97_0 (t1 := t1) (s1 := s1) (e1 := e1) (t2 := t2) (s2 := s2) (e2 := e2) (t3 := t3) (s3 := s3) (e3 := e3) (rhoE cs3) h12
      rw [← h3] at this; exact this
    · have := f97_1 (t1 := t1) (s1 := s1) (e1 := e1) (t2 := t2) (s2 := s2) (e2 := e2) (t3 := t3) (s3 := s3) (e3 := e3) (rhoE cs3) h12
      rw [← h3] at this; exact this
    · have := f97_2 (t1 := t1) (s1 := s1) (e1 := e1) (t2 := t2) (s2 := s2) (e2 := e2) (t3 := t3) (s3 := s3) (e3 := e3) (rhoE cs3) h12
      rw [← h3] at this; exact this
    · have := f97_3 (t1 := t1) (s1 := s1) (e1 := e1) (t2 := t2) (s2 := s2) (e2 := e2) (t3 := t3) (s3 := s3) (e3 := e3) (rhoE cs3) h12
      rw [← h3] at this; exact this
    · have := f97_17 (t1 := t1) (s1 := s1) (e1 := e1) (t2 := t2) (s2 := s2) (e2 := e2) (t3 := t3) (s3 := s3) (e3 := e3) (rhoE cs3) h12
      rw [← h3] at this; exact this
  · dsimp only at h
    obtain ⟨rfl, rfl, h1, h2⟩ := h
    obtain ⟨t1, s1, e1, t2, s2, e2, rfl⟩ := blks2 hb
    exact f97_nil (rhoE []) ⟨h1, h2⟩
  · cases h
/-- the same, not nil -/
def okB3 (a : BlA) : List (List Value) → Prop
  | [cs1, cs2, cs3] => a.nil = false ∧ (OkI cs1 a.n1 a.c1 ∧ OkI cs2 a.n2 a.c2) ∧ five a.n ∧ a.c = a.n ∧ cs3 = ringC (rhoE cs3) a.n
  | _ => False
theorem okB3_B : ∀ a css, okB3 a css → okB a css := by
  intro a css h
  unfold okB3 at h
  split at h
  · exact h
  · cases h
theorem f33_small : ∀ a css os, okB3 a css → Blks css os → ∃ H', Sound Tryd.prog (gl + css.length) (.call Fn.ref03_CheckBlade ⟨[a.val]⟩ (heapL (deads ++ os))) (.val (i (errB a css)) H') := by
  intro a css os h hb
  obtain ⟨n1, c1, n2, c2, n, c, nl⟩ := a
  unfold okB3 at h
  split at h
  · rename_i cs1 cs2 cs3
    dsimp only at h
    obtain ⟨rfl, h12, h5, rfl, h3⟩ := h
    obtain ⟨t1, s1, e1, t2, s2, e2, t3, s3, e3, rfl⟩ := blks3 hb
    rcases h5 with rfl | rfl | rfl | rfl | rfl
    · have := f33_0 (t1 := t1) (s1 := s1) (e1 := e1) (t2 := t2) (s2 := s2) (e2 := e2) (t3 := t3) (s3 := s3) (e3 := e3) (rhoE cs3) h12
      rw [← h3] at this; exact this
    · have := f33_1 (t1 := t1) (s1 := s1) (e1 := e1) (t2 := t2) (s2 := s2) (e2 := e2) (t3 := t3) (s3 := s3) (e3 := e3) (rhoE cs3) h12
      rw [← h3] at this; exact this
    · have := f33_2 (t1 := t1) (s1 := s1) (e1 := e1) (t2 := t2) (s2 := s2) (e2 := e2) (t3 := t3) (s3 := s3) (e3 := e3) (rhoE cs3) h12
      rw [← h3] at this; exact this
    · have := f33_3 (t1 := t1) (s1 := s1) (e1 := e1) (t2 := t2) (s2 := s2) (e2 := e2) (t3 := t3) (s3 := s3) (e3 := e3) (rhoE cs3) h12
      rw [← h3] at this; exact this
    · have := f33_17 (t1 := t1) (s1 := s1) (e1 := e1) (t2 := t2) (s2 := s2) (e2 := e2) (t3 := t3) (s3 := s3) (e3 := e3) (rhoE cs3) h12
      rw [← h3] at this; exact this
  · cases h
noncomputable def TE : Tb := ext (ext TD Fn.rotor_CheckBlade (rdE rdBl okB (fun a css => i (errB a css)) [] (heapL deads))) Fn.ref03_CheckBlade (rdE rdBl okB3 (fun a css => i (errB a css)) [] (heapL deads))
theorem rdBl_ok : ∀ args bs a, rdBl args = some (bs, a) → [a.val].all (renOk (List.range gl ++ bs) 8) = true ∧ args = [a.val].map (ren (List.range gl ++ bs) 8) := by
  intro args bs a h
  unfold rdBl at h
  split at h
  · obtain ⟨h1, h2⟩ := rdB_ok h
    refine ⟨by simp [h1], by rw [h2]; rfl⟩
  · cases h
theorem tsTE {G : Nat} : TSound Tryd.prog G TE :=
  (tsTD.ext (rd_ok (fun a => [a.val]) deads_len deads_flat deads_mem rdBl_ok okB_flat (fun _ _ _ => rfl) f97_small)).ext
    (rd_ok (fun a => [a.val]) deads_len deads_flat deads_mem rdBl_ok (fun a css h => okB_flat a css (okB3_B a css h)) (fun _ _ _ => rfl) f33_small)
end Go.Proofs.YtbocpikgochioaaDoor.Ways
namespace Go.Proofs.YtbocpikgochioaaDoor.Ways
open Go Go.Ex
/-! ### rings in a flow -/
def syF : Nat → Nat → Bool := on_ [(Fn.rotor_section_inflow, 23), (Fn.ref03_Inflow, 26), (Fn.rotor_section_balance, 14), (Fn.rotor_section_balance, 15), (Fn.ref03_Balance, 24), (Fn.ref03_Balance, 25)]
noncomputable def CF : Cfg := ⟨TE, no_, syF, noL⟩
theorem tsF {G : Nat} : TSound Tryd.prog G CF.T := tsTE
theorem one_tree {P : Program} {G : Nat} {C : Cfg} {n : Nat} {f : FuncId} {al : List Value} {H : CH} {v : Value} (t : VT) (hT : TSound P G C.T) (hL : LSound P G C.L) (h1 : execO P G C n (.call f ⟨al⟩ H) = (execO P G C n (.call f ⟨al⟩ H)).fix) (h2 : (execO P G C n (.call f ⟨al⟩ H)).vals = t) (h3 : t.sel = some v) : ∃ H', Sound P G (.call f ⟨al⟩ H) (.val v H') :=
  one_leaf hT hL h1 (by rw [h2]; exact h3)
structure ScA where
  r : Int
  c : Int
  t : Int
  p : Int
  w : Int
  s : Int
  n1 : Nat
  c1 : Nat
  n2 : Nat
  c2 : Nat
def ScA.val (a : ScA) : Value := ag [i a.r, i a.c, i a.t, i a.p, sl 4 0 a.n1 a.c1, sl 5 0 a.n2 a.c2, i a.w, i a.s]
def rdS : Value → Option (List Nat × ScA)
  | .agg ⟨[.int .i64 r, .int .i64 c, .int .i64 t, .int .i64 p, .slice (some ⟨b1, 0, none⟩) n1 c1, .slice (some ⟨b2, 0, none⟩) n2 c2, .int .i64 w, .int .i64 s]⟩ => some ([b1, b2], ⟨r, c, t, p, w, s, n1, c1, n2, c2⟩)
  | _ => none
theorem rdS_ok {v : Value} {bs : List Nat} {a : ScA} (h : rdS v = some (bs, a)) : renOk (List.range gl ++ bs) 8 a.val = true ∧ v = ren (List.range gl ++ bs) 8 a.val := by
  unfold rdS at h
  split at h
  · cases h; exact ⟨rfl, rfl⟩
  · cases h
def denE (r s d : Int) : Int := wrapF .i64 (wrapF .i64 (powE d * s) * r)
def infE (r w s a d : Int) : Int := wrapF .i64 ((wrapF .i64 (wrapF .i64 (1024 * wrapF .i64 (powE d - a)) * w)).tdiv (denE r s d))
def clE (y : Int) (n : Nat) : Int := if wrapF .i64 ((n : Int) - 1) < (if 0 > y then 0 else y) then wrapF .i64 ((n : Int) - 1) else (if 0 > y then 0 else y)
def thrE (r a d : Int) : Int := wrapF .i64 (wrapF .i64 (wrapF .i64 (1024 * a) * wrapF .i64 (powE d - a)) * r)
def balE (r c p a d lift : Int) : Int := wrapF .i64 (thrE r a d - wrapF .i64 (wrapF .i64 (wrapF .i64 (wrapF .i64 (powE d * powE d) * c) * p) * lift))
def liftE (cs : List Value) (k : Int) : Int := intO cs[0 + k.toNat * 1]?
def rdSI : List Value → Option (List Nat × (ScA × Int × Int))
  | [v, .agg ⟨[.int .i64 a, .int .i64 d]⟩] => match rdS v with
    | some x => some (x.1, x.2, a, d)
    | none => none
  | _ => none
def rdSX : List Value → Option (List Nat × (ScA × Int))
  | [v, .int .i64 x] => match rdS v with
    | some y => some (y.1, y.2, x)
    | none => none
  | _ => none
theorem rdSI_ok : ∀ args bs a, rdSI args = some (bs, a) → [a.1.val, ag [i a.2.1, i a.2.2]].all (renOk (List.range gl ++ bs) 8) = true ∧ args = [a.1.val, ag [i a.2.1, i a.2.2]].map (ren (List.range gl ++ bs) 8) := by
  intro args bs a h
  unfold rdSI at h
  split at h
  · split at h
    · rename_i x hx
      cases h
      obtain ⟨h1, h2⟩ := rdS_ok hx
      refine ⟨?_, by rw [h2]; rfl⟩
      show (renOk _ 8 x.2.val && _) = true
      rw [h1]; rfl
    · cases h
  · cases h
theorem rdSX_ok : ∀ args bs a, rdSX args = some (bs, a) → [a.1.val, i a.2].all (renOk (List.range gl ++ bs) 8) = true ∧ args = [a.1.val, i a.2].map (ren (List.range gl ++ bs) 8) := by
  intro args bs a h
  unfold rdSX at h
  split at h
  · split at h
    · rename_i x hx
      cases h
      obtain ⟨h1, h2⟩ := rdS_ok hx
      refine ⟨?_, by rw [h2]; rfl⟩
      show (renOk _ 8 x.2.val && _) = true
      rw [h1]; rfl
    · cases h
  · cases h
def fl2 : List (List Value) → Prop
  | [cs1, cs2] => cs1.all Ex.flat = true ∧ cs2.all Ex.flat = true
  | _ => False
theorem fl2_flat {css : List (List Value)} (h : fl2 css) : ∀ cs ∈ css, cs.all Ex.flat = true := by
  intro cs hc
  unfold fl2 at h
  split at h
  · simp at hc
    rcases hc with rfl | rfl
    · exact h.1
    · exact h.2
  · cases h
theorem fl2_blks {css : List (List Value)} {os : List CO} (h : fl2 css) (hb : Blks css os) : ∃ cs1 t1 s1 e1 cs2 t2 s2 e2, css = [cs1, cs2] ∧ os = [.cells cs1 t1 s1 e1, .cells cs2 t2 s2 e2] := by
  unfold fl2 at h
  split at h
  · obtain ⟨_, _, _, _, _, _, rfl⟩ := blks2 hb
    exact ⟨_, _, _, _, _, _, _, _, rfl, rfl⟩
  · cases h
def okInf (a : ScA × Int × Int) (css : List (List Value)) : Prop := fl2 css ∧ (1 ≤ a.2.2 ∧ a.2.2 ≤ 12) ∧ denE a.1.r a.1.s a.2.2 ≠ 0
def okThr (a : ScA × Int × Int) (css : List (List Value)) : Prop := fl2 css ∧ (1 ≤ a.2.2 ∧ a.2.2 ≤ 12)
theorem inf_small : ∀ a css os, okInf a css → Blks css os → ∃ H', Sound Tryd.prog (gl + css.length) (.call Fn.rotor_section_inflow ⟨[a.1.val, ag [i a.2.1, i a.2.2]]⟩ (heapL (deads ++ os))) (.val (i (infE a.1.r a.1.w a.1.s a.2.1 a.2.2)) H') := by
  intro a css os h hb
  obtain ⟨⟨r, c, t, p, w, s, n1, c1, n2, c2⟩, x, d⟩ := a
  obtain ⟨h0, h1, h2⟩ := h
  obtain ⟨cs1, t1, s1, e1, cs2, t2, s2, e2, rfl, rfl⟩ := fl2_blks h0 hb
  refine one_tree (C := CF) (n := 40) (askB (tru (okPt (x, d) [])) (askB (tru (okPt (x, d) [])) (askB (!eqF (denE r s d) 0) (.leaf (i (infE r w s x d)))))) tsF .none (by kernel_rfl) (by kernel_rfl) ?_
  have hp : tru (okPt (x, d) []) = true := tru_iff.2 h1
  rw [askB_sel hp, askB_sel hp, askB_sel (by rw [eqF_d]; simpa using h2)]; rfl
theorem thr_small : ∀ a css os, okThr a css → Blks css os → ∃ H', Sound Tryd.prog (gl + css.length) (.call Fn.rotor_section_thrust ⟨[a.1.val, ag [i a.2.1, i a.2.2]]⟩ (heapL (deads ++ os))) (.val (i (thrE a.1.r a.2.1 a.2.2)) H') := by
  intro a css os h hb
  obtain ⟨⟨r, c, t, p, w, s, n1, c1, n2, c2⟩, x, d⟩ := a
  obtain ⟨h0, h1⟩ := h
  obtain ⟨cs1, t1, s1, e1, cs2, t2, s2, e2, rfl, rfl⟩ := fl2_blks h0 hb
  refine one_tree (C := CF) (n := 40) (askB (tru (okPt (x, d) [])) (.leaf (i (thrE r x d)))) tsF .none (by kernel_rfl) (by kernel_rfl) ?_
  rw [askB_sel (tru_iff.2 (show okPt (x, d) [] from h1))]; rfl
theorem cls_small : ∀ (a : ScA × Int) css os, fl2 css → Blks css os → ∃ H', Sound Tryd.prog (gl + css.length) (.call Fn.rotor_section_class ⟨[a.1.val, i a.2]⟩ (heapL (deads ++ os))) (.val (i (clE (wrapF .i64 (a.2 - a.1.t)) a.1.n1)) H') := by
  intro a css os h0 hb
  obtain ⟨⟨r, c, t, p, w, s, n1, c1, n2, c2⟩, x⟩ := a
  obtain ⟨cs1, t1, s1, e1, cs2, t2, s2, e2, rfl, rfl⟩ := fl2_blks h0 hb
  exact one_leaf (C := CF) (n := 40) tsF .none (by kernel_rfl) (by kernel_rfl)
/-- the reference -/
def rdRI : List Value → Option (List Nat × ((Int × Int × Int × Int) × (Int × Int × Int) × Int × Int))
  | [.agg ⟨[.int .i64 r, .int .i64 c, .int .i64 t, .int .i64 p]⟩, .agg ⟨[.int .i64 w, .int .i64 s, .int .i64 q]⟩, .agg ⟨[.int .i64 a, .int .i64 d]⟩] => some ([], (r, c, t, p), (w, s, q), a, d)
  | _ => none
def okRI (a : (Int × Int × Int × Int) × (Int × Int × Int) × Int × Int) : List (List Value) → Prop
  | [] => (0 ≤ a.2.2.2 ∧ a.2.2.2 ≤ 12) ∧ denE a.1.1 a.2.1.2.1 a.2.2.2 ≠ 0
  | _ => False
def rdRC : List Value → Option (List Nat × ((Nat × Nat × Nat × Nat) × (Int × Int × Int × Int) × (Int × Int × Int) × Int))
  | [.agg ⟨[.slice (some ⟨b1, 0, none⟩) n1 c1, .slice (some ⟨b2, 0, none⟩) n2 c2]⟩, .agg ⟨[.int .i64 r, .int .i64 c, .int .i64 t, .int .i64 p]⟩, .agg ⟨[.int .i64 w, .int .i64 s, .int .i64 q]⟩, .int .i64 x] => some ([b1, b2], (n1, c1, n2, c2), (r, c, t, p), (w, s, q), x)
  | _ => none
noncomputable def TF1 : Tb := ext (ext (ext TE Fn.rotor_section_inflow (rdE rdSI okInf (fun a _ => i (infE a.1.r a.1.w a.1.s a.2.1 a.2.2)) [] (heapL deads)))
  Fn.rotor_section_thrust (rdE rdSI okThr (fun a _ => i (thrE a.1.r a.2.1 a.2.2)) [] (heapL deads)))
  Fn.rotor_section_class (rdE rdSX (fun _ css => fl2 css) (fun a _ => i (clE (wrapF .i64 (a.2 - a.1.t)) a.1.n1)) [] (heapL deads))
theorem tsF1 {G : Nat} : TSound Tryd.prog G TF1 :=
  (((tsTE.ext (rd_ok (fun a => [a.1.val, ag [i a.2.1, i a.2.2]]) deads_len deads_flat deads_mem rdSI_ok (fun _ _ h => fl2_flat h.1) (fun _ _ _ => rfl) inf_small)).ext
    (rd_ok (fun a => [a.1.val, ag [i a.2.1, i a.2.2]]) deads_len deads_flat deads_mem rdSI_ok (fun _ _ h => fl2_flat h.1) (fun _ _ _ => rfl) thr_small)).ext
    (rd_ok (fun a => [a.1.val, i a.2]) deads_len deads_flat deads_mem rdSX_ok (fun _ _ h => fl2_flat h) (fun _ _ _ => rfl) cls_small))
noncomputable def CF1 : Cfg := ⟨TF1, no_, syF, noL⟩
theorem clE_in (y : Int) {n : Nat} (h1 : 1 ≤ n) (h2 : n ≤ 1000000) : 0 ≤ clE y n ∧ clE y n < n := by
  unfold clE
  rw [wrapF_in (by omega) (by omega)]
  split <;> split <;> omega
theorem cl_ask {cs : List Value} {n c : Nat} (h : OkI cs n c) (h1 : 1 ≤ n) (y : Int) : (leF 0 (clE y n) && (ltF (clE y n) n && decide (n ≤ c))) = true ∧ isCellB (.i .i64) cs[0 + (clE y n).toNat * 1]? = true := by
  have hc := clE_in y h1 h.2.2.2
  refine ⟨?_, h.2.1 _ (by omega)⟩
  have := h.2.2.1
  simp [leF_eq, ltF_eq, hc.1, hc.2, this]
def okBal (a : ScA × Int × Int) : List (List Value) → Prop
  | [cs1, cs2] => OkI cs1 a.1.n1 a.1.c1 ∧ cs2.all Ex.flat = true ∧ 1 ≤ a.1.n1 ∧ (1 ≤ a.2.2 ∧ a.2.2 ≤ 12) ∧ denE a.1.r a.1.s a.2.2 ≠ 0
  | _ => False
def balV (a : ScA × Int × Int) : List (List Value) → Int
  | [cs1, _] => balE a.1.r a.1.c a.1.p a.2.1 a.2.2 (liftE cs1 (clE (wrapF .i64 (infE a.1.r a.1.w a.1.s a.2.1 a.2.2 - a.1.t)) a.1.n1))
  | _ => 0
theorem okBal_fl {a : ScA × Int × Int} {css : List (List Value)} (h : okBal a css) : fl2 css := by
  unfold okBal at h
  split at h
  · exact ⟨h.1.1, h.2.1⟩
  · cases h
theorem bal_small : ∀ a css os, okBal a css → Blks css os → ∃ H', Sound Tryd.prog (gl + css.length) (.call Fn.rotor_section_balance ⟨[a.1.val, ag [i a.2.1, i a.2.2]]⟩ (heapL (deads ++ os))) (.val (i (balV a css)) H') := by
  intro a css os h hb
  have h0 := okBal_fl h
  obtain ⟨⟨r, c, t, p, w, s, n1, c1, n2, c2⟩, x, d⟩ := a
  obtain ⟨cs1, t1, s1, e1, cs2, t2, s2, e2, rfl, rfl⟩ := fl2_blks h0 hb
  obtain ⟨g1, g2, g3, g4, g5⟩ := h
  let cl : Int := clE (wrapF .i64 (infE r w s x d - t)) n1
  let A : ScA := ⟨r, c, t, p, w, s, n1, c1, n2, c2⟩
  refine one_tree (C := CF1) (n := 40) (askB (tru (okInf (A, x, d) [cs1, cs2])) (askB (tru (fl2 [cs1, cs2])) (askB (leF 0 cl && (ltF cl n1 && decide (n1 ≤ c1))) (askB (isCellB (.i .i64) cs1[0 + cl.toNat * 1]?) (askB (tru (okThr (A, x, d) [cs1, cs2])) (askB (tru (okPt (x, d) [])) (askB (tru (okPt (x, d) [])) (.leaf (i (balE r c p x d (liftE cs1 cl))))))))))) tsF1 .none (by kernel_rfl) (by kernel_rfl) ?_
  obtain ⟨k1, k2⟩ := cl_ask g1 g3 (wrapF .i64 (infE r w s x d - t))
  have hp : tru (okPt (x, d) []) = true := tru_iff.2 g4
  rw [askB_sel (tru_iff.2 (show okInf (A, x, d) [cs1, cs2] from ⟨h0, g4, g5⟩)), askB_sel (tru_iff.2 h0), askB_sel k1, askB_sel k2, askB_sel (tru_iff.2 (show okThr (A, x, d) [cs1, cs2] from ⟨h0, g4⟩)), askB_sel hp, askB_sel hp]
  rfl
/-- the arguments of the reference's balance -/
structure RbA where
  n1 : Nat
  c1 : Nat
  n2 : Nat
  c2 : Nat
  r : Int
  c : Int
  t : Int
  p : Int
  w : Int
  s : Int
  q : Int
  a : Int
  d : Int
def rdRB : List Value → Option (List Nat × RbA)
  | [.agg ⟨[.slice (some ⟨b1, 0, none⟩) n1 c1, .slice (some ⟨b2, 0, none⟩) n2 c2]⟩, .agg ⟨[.int .i64 r, .int .i64 c, .int .i64 t, .int .i64 p]⟩, .agg ⟨[.int .i64 w, .int .i64 s, .int .i64 q]⟩, .agg ⟨[.int .i64 a, .int .i64 d]⟩] => some ([b1, b2], ⟨n1, c1, n2, c2, r, c, t, p, w, s, q, a, d⟩)
  | _ => none
def RbA.vals (a : RbA) : List Value := [polV a.n1 a.c1 a.n2 a.c2, ag [i a.r, i a.c, i a.t, i a.p], ag [i a.w, i a.s, i a.q], ag [i a.a, i a.d]]
theorem rdRB_ok : ∀ args bs a, rdRB args = some (bs, a) → a.vals.all (renOk (List.range gl ++ bs) 8) = true ∧ args = a.vals.map (ren (List.range gl ++ bs) 8) := by
  intro args bs a h
  unfold rdRB at h
  split at h
  · cases h; exact ⟨rfl, rfl⟩
  · cases h
def okRB (a : RbA) : List (List Value) → Prop
  | [cs1, cs2] => OkI cs1 a.n1 a.c1 ∧ cs2.all Ex.flat = true ∧ 1 ≤ a.n1 ∧ (1 ≤ a.d ∧ a.d ≤ 12) ∧ denE a.r a.s a.d ≠ 0
  | _ => False
def rbalV (a : RbA) : List (List Value) → Int
  | [cs1, _] => balE a.r a.c a.p a.a a.d (liftE cs1 (clE (wrapF .i64 (wrapF .i64 (infE a.r a.w a.s a.a a.d - a.t) - a.q)) a.n1))
  | _ => 0
theorem okRB_fl {a : RbA} {css : List (List Value)} (h : okRB a css) : fl2 css := by
  unfold okRB at h
  split at h
  · exact ⟨h.1.1, h.2.1⟩
  · cases h
noncomputable def TF : Tb := ext TF1 Fn.rotor_section_balance (rdE rdSI okBal (fun a css => i (balV a css)) [] (heapL deads))
theorem tsTF {G : Nat} : TSound Tryd.prog G TF :=
  (tsF1.ext (rd_ok (fun a => [a.1.val, ag [i a.2.1, i a.2.2]]) deads_len deads_flat deads_mem rdSI_ok (fun _ _ h => fl2_flat (okBal_fl h)) (fun _ _ _ => rfl) bal_small))
end Go.Proofs.YtbocpikgochioaaDoor.Ways
namespace Go.Proofs.YtbocpikgochioaaDoor.Ways
open Go Go.Ex
/-! ### a ring of a blade in a flow -/
/-- a section that is none: nobody asks it -/
noncomputable def zE : Ent := fun args H =>
  match args with
  | .agg ⟨[_, _, _, _, .slice none 0 0, .slice none 0 0, _, _]⟩ :: _ => some (some (tru False), i 0, H, [])
  | _ => none
noncomputable def zT : Tb := fun f args H => cond (Nat.beq f Fn.rotor_section_inflow || (Nat.beq f Fn.rotor_section_class || Nat.beq f Fn.rotor_section_balance)) (zE args H) none
noncomputable def orT (T z : Tb) : Tb := fun f args H =>
  match T f args H with
  | some r => some r
  | none => z f args H
theorem orT_ok {P : Program} {G : Nat} {T z : Tb} (h1 : TSound P G T) (h2 : TSound P G z) : TSound P G (orT T z) := by
  intro f args H c v H' l h hc hl
  unfold orT at h
  split at h
  · rename_i r hr
    cases h
    exact h1 f args H c v H' l hr hc hl
  · exact h2 f args H c v H' l h hc hl
theorem zT_ok {P : Program} {G : Nat} : TSound P G zT := by
  intro f args H c v H' l h hc _
  unfold zT at h
  cases hb : (Nat.beq f Fn.rotor_section_inflow || (Nat.beq f Fn.rotor_section_class || Nat.beq f Fn.rotor_section_balance)) with
  | false => rw [hb] at h; cases h
  | true =>
    rw [hb] at h
    have h' : zE args H = some (c, v, H', l) := h
    unfold zE at h'
    split at h'
    · cases h'
      exact (tru_iff.1 hc).elim
    · cases h'
noncomputable def TG0 : Tb := orT TF zT
theorem tsG0 {G : Nat} : TSound Tryd.prog G TG0 := orT_ok tsTF zT_ok
def secE (bE fE ring : Int) (n : Nat) : Int := if firstE bE fE = 0 then (if 0 ≤ ring ∧ ring < n then 0 else 10) else firstE bE fE
def ringsT (ring : Int) (x : VT) (k : Nat → VT) : Nat → Nat → VT
  | 0, _ => x
  | m + 1, j => .br (eqF (j : Int) ring) (k j) (ringsT ring x k m (j + 1))
noncomputable def secT (okb : Bool) (bE fE ring : Int) (n : Nat) (errK : Int → VT) (okK : Nat → VT) : VT :=
  askB okb (askFst [bE, fE] fun e => .br (!eqF e 0) (errK e) (ringsT ring (errK 10) okK n 0))
theorem ringsT_sel (ring : Int) (x : VT) (k : Nat → VT) : ∀ m j, (ringsT ring x k m j).sel = if (j : Int) ≤ ring ∧ ring < ((j + m : Nat) : Int) then (k ring.toNat).sel else x.sel
  | 0, j => by rw [if_neg (by omega)]; rfl
  | m + 1, j => by
    unfold ringsT
    rw [eqF_d, brD, ringsT_sel ring x k m (j + 1)]
    by_cases h : (j : Int) = ring
    · rw [if_pos h, if_pos (by omega), show ring.toNat = j from by omega]
    · rw [if_neg h]
      by_cases h2 : (j : Int) ≤ ring ∧ ring < ((j + (m + 1) : Nat) : Int)
      · rw [if_pos h2, if_pos (by omega)]
      · rw [if_neg h2, if_neg (by omega)]
theorem firstL2 (a b : Int) : firstL [a, b] = firstE a b := by
  show firstE a (firstE b 0) = _
  rw [firstE_zero]
theorem secT_sel {okb : Bool} {bE fE ring : Int} {n : Nat} {errK : Int → VT} {okK : Nat → VT} (h : okb = true) : (secT okb bE fE ring n errK okK).sel = if secE bE fE ring n = 0 then (okK ring.toNat).sel else (errK (secE bE fE ring n)).sel := by
  unfold secT
  rw [askB_sel h, askFst_sel (by simp), firstL2, eqF_d, brN, ringsT_sel]
  unfold secE
  by_cases h1 : firstE bE fE = 0
  · rw [if_pos h1, if_pos h1]
    by_cases h2 : 0 ≤ ring ∧ ring < n
    · rw [if_pos (by simpa using h2), if_pos h2, if_pos rfl]
    · rw [if_neg (by simpa using h2), if_neg h2, if_neg (by decide)]
  · rw [if_neg h1, if_neg h1, if_neg h1]
noncomputable def finK (e r : Int) (g : VT) : VT := askFst [e, r] fun e2 => .br (!eqF e2 0) (.leaf (tp [i 0, i e2])) g
noncomputable def junk : VT := askB (tru False) (.leaf (tp [i 0, i 0]))
theorem finK_sel {e r : Int} {g : VT} : (finK e r g).sel = if firstE e r = 0 then g.sel else some (tp [i 0, i (firstE e r)]) := by
  unfold finK
  rw [askFst_sel (by simp), firstL2, eqF_d, brN]; rfl
theorem sec_fin {okb : Bool} {bE fE ring r v : Int} {n : Nat} {good : Nat → VT} (h : okb = true) (hg : secE bE fE ring n = 0 → r = 0 → (good ring.toNat).sel = some (tp [i v, i 0])) :
    (secT okb bE fE ring n (fun e => finK e r junk) (fun j => finK 0 r (good j))).sel = some (resN (firstE (secE bE fE ring n) r) v) := by
  rw [secT_sel h, finK_sel, finK_sel]
  unfold resN okE
  by_cases h1 : secE bE fE ring n = 0
  · rw [if_pos h1, h1]
    have : firstE 0 r = r := by unfold firstE; rw [if_pos rfl]
    rw [this]
    by_cases h2 : r = 0
    · rw [if_pos h2, hg h1 h2, if_pos h2, h2]
    · rw [if_neg h2, if_neg h2]
  · rw [if_neg h1]
    have : firstE (secE bE fE ring n) r = secE bE fE ring n := by unfold firstE; rw [if_neg h1]
    rw [this, if_neg h1, if_neg h1]
/-! ### what is known of a blade and a flow without errors -/
theorem firstE_z {x y : Int} (h : firstE x y = 0) : x = 0 ∧ y = 0 := by
  unfold firstE at h
  split at h
  · exact ⟨by assumption, h⟩
  · exact absurd h (by assumption)
theorem ring4_z {r c t p : Int} (h : ring4E r c t p = 0) : (1 ≤ r ∧ r ≤ 200) ∧ (1 ≤ c ∧ c ≤ 100) ∧ (-64 ≤ t ∧ t ≤ 64) ∧ (0 ≤ p ∧ p ≤ 256) := by
  obtain ⟨h1, h⟩ := firstE_z h
  obtain ⟨h2, h⟩ := firstE_z h
  obtain ⟨h3, h⟩ := firstE_z h
  obtain ⟨h4, _⟩ := firstE_z h
  exact ⟨range_z h1, range_z h2, range_z h3, range_z h4⟩
theorem flow_z {w s p : Int} (h : flowE w s p = 0) : (1 ≤ w ∧ w ≤ 50) ∧ (1 ≤ s ∧ s ≤ 1000) ∧ (-64 ≤ p ∧ p ≤ 64) := by
  obtain ⟨h1, h⟩ := firstE_z h
  obtain ⟨h2, h⟩ := firstE_z h
  obtain ⟨h3, _⟩ := firstE_z h
  exact ⟨range_z h1, range_z h2, range_z h3⟩
theorem blade_z {cs1 cs2 : List Value} {n1 n2 n : Nat} {ρ : Nat → Int} (h : bladeE cs1 n1 cs2 n2 ρ n = 0) : polE cs1 n1 cs2 n2 = 0 ∧ 1 ≤ n ∧ n ≤ 16 ∧ ∀ j, j < n → r4E ρ j = 0 ∧ rbE ρ j < ρ (4 * j) := by
  unfold bladeE at h
  by_cases hp : polE cs1 n1 cs2 n2 = 0
  · rw [if_pos hp] at h
    by_cases h0 : n = 0
    · rw [if_pos h0] at h; cases h
    · rw [if_neg h0] at h
      by_cases h1 : 16 < n
      · rw [if_pos h1] at h; cases h
      · rw [if_neg h1] at h
        refine ⟨hp, by omega, by omega, fun j hj => ?_⟩
        have := (firstF_zero n 0).1 h j (Nat.zero_le _) (by omega)
        unfold rngE at this
        by_cases hr : r4E ρ j = 0
        · rw [if_pos hr] at this
          refine ⟨hr, ?_⟩
          by_cases hb : ρ (4 * j) ≤ rbE ρ j
          · rw [if_pos hb] at this; cases this
          · omega
        · rw [if_neg hr] at this; exact absurd this hr
  · rw [if_neg hp] at h; exact absurd h hp
theorem pol_z {cs1 cs2 : List Value} {n1 n2 : Nat} (h : polE cs1 n1 cs2 n2 = 0) : 1 ≤ n1 ∧ n1 ≤ 32 ∧ n1 = n2 ∧ (∀ j, j < n1 → riE cs1 1000 j = 0) ∧ ∀ j, j < n2 → drE cs2 j = 0 := by
  unfold polE at h
  by_cases h1 : (n1 : Int) = 0
  · rw [if_pos h1] at h; cases h
  rw [if_neg h1] at h
  by_cases h2 : (32 : Int) < n1
  · rw [if_pos h2] at h; cases h
  rw [if_neg h2] at h
  by_cases h3 : (n1 : Int) = n2
  · rw [if_pos h3] at h
    obtain ⟨g1, g2⟩ := firstE_z h
    exact ⟨by omega, by omega, by omega, fun j hj => (firstF_zero n1 0).1 g1 j (Nat.zero_le _) (by omega), fun j hj => (firstF_zero n2 0).1 g2 j (Nat.zero_le _) (by omega)⟩
  · rw [if_neg h3] at h; cases h
theorem sec_z {bE fE ring : Int} {n : Nat} (h : secE bE fE ring n = 0) : bE = 0 ∧ fE = 0 ∧ 0 ≤ ring ∧ ring < n := by
  unfold secE at h
  by_cases h1 : firstE bE fE = 0
  · rw [if_pos h1] at h
    by_cases h2 : 0 ≤ ring ∧ ring < n
    · exact ⟨(firstE_z h1).1, (firstE_z h1).2, h2⟩
    · rw [if_neg h2] at h; cases h
  · rw [if_neg h1] at h; exact absurd h h1
theorem pow_bd {d : Int} (h : 1 ≤ d ∧ d ≤ 12) : 2 ≤ powE d ∧ powE d ≤ 4096 := by
  have : d = 1 ∨ d = 2 ∨ d = 3 ∨ d = 4 ∨ d = 5 ∨ d = 6 ∨ d = 7 ∨ d = 8 ∨ d = 9 ∨ d = 10 ∨ d = 11 ∨ d = 12 := by omega
  rcases this with rfl | rfl | rfl | rfl | rfl | rfl | rfl | rfl | rfl | rfl | rfl | rfl <;> decide
theorem mul_bd {a b A B : Int} (ha : 0 ≤ a ∧ a ≤ A) (hb : 0 ≤ b ∧ b ≤ B) : 0 ≤ a * b ∧ a * b ≤ A * B :=
  ⟨Int.mul_nonneg ha.1 hb.1, Int.mul_le_mul ha.2 hb.2 hb.1 (Int.le_trans ha.1 ha.2)⟩
theorem den_eq {r s d : Int} (hr : 1 ≤ r ∧ r ≤ 200) (hs : 1 ≤ s ∧ s ≤ 1000) (hd : 1 ≤ d ∧ d ≤ 12) : denE r s d = powE d * s * r ∧ 0 < powE d * s * r ∧ powE d * s * r ≤ 819200000 := by
  have hp := pow_bd hd
  have h1 := mul_bd (a := powE d) (b := s) (A := 4096) (B := 1000) (by omega) (by omega)
  have h2 := mul_bd (a := powE d * s) (b := r) (A := 4096 * 1000) (B := 200) h1 (by omega)
  have h3 : 0 < powE d * s * r := Int.mul_pos (Int.mul_pos (by omega) (by omega)) (by omega)
  refine ⟨?_, h3, by omega⟩
  unfold denE
  rw [wrapF_in (n := powE d * s) (by omega) (by omega), wrapF_in (by omega) (by omega)]
theorem den_ne {r s d : Int} (hr : 1 ≤ r ∧ r ≤ 200) (hs : 1 ≤ s ∧ s ≤ 1000) (hd : 1 ≤ d ∧ d ≤ 12) : denE r s d ≠ 0 := by
  obtain ⟨h1, h2, _⟩ := den_eq hr hs hd
  rw [h1]; omega
theorem ind_z {a d : Int} (h : indE a d = 0) : (1 ≤ d ∧ d ≤ 12) ∧ 0 ≤ a ∧ a ≤ powE (d - 1) := by
  unfold indE at h
  by_cases h1 : rangeE d 1 12 = 0
  · rw [if_pos h1] at h; exact ⟨range_z h1, range_z h⟩
  · rw [if_neg h1] at h; exact absurd h h1
/-! ### the functions of the program -/
def spG : Nat → Nat → Split := at_ [(Fn.rotor_sectionOf, 18), (Fn.rotor_sectionOf, 28), (Fn.rotor_Class, 26), (Fn.rotor_Inflow, 21), (Fn.rotor_Balance, 21), (Fn.ref03_CheckRing, 15), (Fn.ref03_CheckRing, 18), (Fn.ref03_CheckRing, 24)] .bool no_
noncomputable def CG : Cfg := ⟨TG0, spG, off_, noL⟩
theorem tsG {G : Nat} : TSound Tryd.prog G CG.T := tsG0
def flV (w s q : Int) : Value := ag [i w, i s, i q]
def scA (ρ : Nat → Int) (w s q : Int) (n1 c1 n2 c2 j : Nat) : ScA := ⟨ρ (4 * j), ρ (4 * j + 1), wrapF .i64 (ρ (4 * j + 2) + q), ρ (4 * j + 3), w, s, n1, c1, n2, c2⟩
noncomputable def goodC (cs1 cs2 : List Value) (ρ : Nat → Int) (w s q : Int) (n1 c1 n2 c2 : Nat) (x : Int) (j : Nat) : VT := askB (tru (fl2 [cs1, cs2])) (.leaf (tp [i (clE (wrapF .i64 (x - (scA ρ w s q n1 c1 n2 c2 j).t)) n1), i 0]))
noncomputable def goodI (cs1 cs2 : List Value) (ρ : Nat → Int) (w s q : Int) (n1 c1 n2 c2 : Nat) (a d : Int) (j : Nat) : VT := askB (tru (okInf (scA ρ w s q n1 c1 n2 c2 j, a, d) [cs1, cs2])) (.leaf (tp [i (infE (ρ (4 * j)) w s a d), i 0]))
noncomputable def goodB (cs1 cs2 : List Value) (ρ : Nat → Int) (w s q : Int) (n1 c1 n2 c2 : Nat) (a d : Int) (j : Nat) : VT := askB (tru (okBal (scA ρ w s q n1 c1 n2 c2 j, a, d) [cs1, cs2])) (.leaf (tp [i (balV (scA ρ w s q n1 c1 n2 c2 j, a, d) [cs1, cs2]), i 0]))
section
variable {cs1 cs2 : List Value} {t1 s1 t2 s2 t3 s3 : Nat} {e1 e2 e3 : Bool} {n1 c1 n2 c2 : Nat} {w s q ring : Int} {ρ : Nat → Int} {n : Nat}
theorem goodC_sel (h1 : OkI cs1 n1 c1) (h2 : OkI cs2 n2 c2) (x : Int) (j : Nat) : (goodC cs1 cs2 ρ w s q n1 c1 n2 c2 x j).sel = some (tp [i (clE (wrapF .i64 (x - wrapF .i64 (ρ (4 * j + 2) + q))) n1), i 0]) := by
  unfold goodC
  rw [askB_sel (tru_iff.2 (show fl2 [cs1, cs2] from ⟨h1.1, h2.1⟩))]; rfl
theorem goodI_sel (h1 : OkI cs1 n1 c1) (h2 : OkI cs2 n2 c2) (a d : Int) (h : secE (bladeE cs1 n1 cs2 n2 ρ n) (flowE w s q) ring n = 0) (hi : indE a d = 0) : (goodI cs1 cs2 ρ w s q n1 c1 n2 c2 a d ring.toNat).sel = some (tp [i (infE (ρ (4 * ring.toNat)) w s a d), i 0]) := by
  obtain ⟨hb, hf, hr0, hr1⟩ := sec_z h
  obtain ⟨hp, _, _, hr⟩ := blade_z hb
  obtain ⟨hrj, _⟩ := hr ring.toNat (by omega)
  obtain ⟨g1, _⟩ := ring4_z hrj
  obtain ⟨_, g2, _⟩ := flow_z hf
  obtain ⟨g3, _⟩ := ind_z hi
  unfold goodI
  rw [askB_sel (tru_iff.2 (show okInf (scA ρ w s q n1 c1 n2 c2 ring.toNat, a, d) [cs1, cs2] from ⟨⟨h1.1, h2.1⟩, g3, den_ne g1 g2 g3⟩))]; rfl
theorem goodB_sel (h1 : OkI cs1 n1 c1) (h2 : OkI cs2 n2 c2) (a d : Int) (h : secE (bladeE cs1 n1 cs2 n2 ρ n) (flowE w s q) ring n = 0) (hi : indE a d = 0) : (goodB cs1 cs2 ρ w s q n1 c1 n2 c2 a d ring.toNat).sel = some (tp [i (balV (scA ρ w s q n1 c1 n2 c2 ring.toNat, a, d) [cs1, cs2]), i 0]) := by
  obtain ⟨hb, hf, hr0, hr1⟩ := sec_z h
  obtain ⟨hp, _, _, hr⟩ := blade_z hb
  obtain ⟨hrj, _⟩ := hr ring.toNat (by omega)
  obtain ⟨g1, _⟩ := ring4_z hrj
  obtain ⟨_, g2, _⟩ := flow_z hf
  obtain ⟨g3, _⟩ := ind_z hi
  unfold goodB
  rw [askB_sel (tru_iff.2 (show okBal (scA ρ w s q n1 c1 n2 c2 ring.toNat, a, d) [cs1, cs2] from ⟨h1, h2.1, (pol_z hp).1, g3, den_ne g1 g2 g3⟩))]; rfl
theorem f11_nil (h1 : OkI cs1 n1 c1) (h2 : OkI cs2 n2 c2) (a d : Int) : ∃ H', Sound Tryd.prog 6 (.call Fn.rotor_Inflow ⟨[blV n1 c1 n2 c2 (.slice none 0 0), flV w s q, i ring, ag [i a, i d]]⟩ (hp118 cs1 t1 s1 e1 cs2 t2 s2 e2)) (.val (resN (firstE (secE (bladeE cs1 n1 cs2 n2 (rhoE []) 0) (flowE w s q) ring 0) (indE a d)) (infE (rhoE [] (4 * ring.toNat)) w s a d)) H') :=
  one_tree (C := CG) (n := 60) (secT (tru (okB ⟨n1, c1, n2, c2, 0, 0, true⟩ [cs1, cs2])) (bladeE cs1 n1 cs2 n2 (rhoE []) 0) (flowE w s q) ring 0 (fun e => finK e (indE a d) junk) (fun j => finK 0 (indE a d) ((goodI cs1 cs2 (rhoE []) w s q n1 c1 n2 c2 a d) j))) tsG .none (by kernel_rfl) (by kernel_rfl) (sec_fin (tru_iff.2 (show okB ⟨n1, c1, n2, c2, 0, 0, true⟩ [cs1, cs2] from ⟨rfl, rfl, h1, h2⟩)) (fun ha hi => goodI_sel h1 h2 a d ha hi))
theorem f11_1 (h1 : OkI cs1 n1 c1) (h2 : OkI cs2 n2 c2) (a d : Int) : ∃ H', Sound Tryd.prog 7 (.call Fn.rotor_Inflow ⟨[blV n1 c1 n2 c2 (sl 6 0 1 1), flV w s q, i ring, ag [i a, i d]]⟩ (hpB cs1 t1 s1 e1 cs2 t2 s2 e2 (ringC ρ 1) t3 s3 e3)) (.val (resN (firstE (secE (bladeE cs1 n1 cs2 n2 ρ 1) (flowE w s q) ring 1) (indE a d)) (infE (ρ (4 * ring.toNat)) w s a d)) H') :=
  one_tree (C := CG) (n := 60) (secT (tru (okB ⟨n1, c1, n2, c2, 1, 1, false⟩ [cs1, cs2, ringC ρ 1])) (bladeE cs1 n1 cs2 n2 ρ 1) (flowE w s q) ring 1 (fun e => finK e (indE a d) junk) (fun j => finK 0 (indE a d) ((goodI cs1 cs2 ρ w s q n1 c1 n2 c2 a d) j))) tsG .none (by kernel_rfl) (by kernel_rfl) (sec_fin (tru_iff.2 (show okB ⟨n1, c1, n2, c2, 1, 1, false⟩ [cs1, cs2, ringC ρ 1] from ⟨rfl, ⟨h1, h2⟩, by unfold five; simp, rfl, ringC_self ρ 1⟩)) (fun ha hi => goodI_sel h1 h2 a d ha hi))
theorem f11_2 (h1 : OkI cs1 n1 c1) (h2 : OkI cs2 n2 c2) (a d : Int) : ∃ H', Sound Tryd.prog 7 (.call Fn.rotor_Inflow ⟨[blV n1 c1 n2 c2 (sl 6 0 2 2), flV w s q, i ring, ag [i a, i d]]⟩ (hpB cs1 t1 s1 e1 cs2 t2 s2 e2 (ringC ρ 2) t3 s3 e3)) (.val (resN (firstE (secE (bladeE cs1 n1 cs2 n2 ρ 2) (flowE w s q) ring 2) (indE a d)) (infE (ρ (4 * ring.toNat)) w s a d)) H') :=
  one_tree (C := CG) (n := 60) (secT (tru (okB ⟨n1, c1, n2, c2, 2, 2, false⟩ [cs1, cs2, ringC ρ 2])) (bladeE cs1 n1 cs2 n2 ρ 2) (flowE w s q) ring 2 (fun e => finK e (indE a d) junk) (fun j => finK 0 (indE a d) ((goodI cs1 cs2 ρ w s q n1 c1 n2 c2 a d) j))) tsG .none (by kernel_rfl) (by kernel_rfl) (sec_fin (tru_iff.2 (show okB ⟨n1, c1, n2, c2, 2, 2, false⟩ [cs1, cs2, ringC ρ 2] from ⟨rfl, ⟨h1, h2⟩, by unfold five; simp, rfl, ringC_self ρ 2⟩)) (fun ha hi => goodI_sel h1 h2 a d ha hi))
theorem f11_3 (h1 : OkI cs1 n1 c1) (h2 : OkI cs2 n2 c2) (a d : Int) : ∃ H', Sound Tryd.prog 7 (.call Fn.rotor_Inflow ⟨[blV n1 c1 n2 c2 (sl 6 0 3 3), flV w s q, i ring, ag [i a, i d]]⟩ (hpB cs1 t1 s1 e1 cs2 t2 s2 e2 (ringC ρ 3) t3 s3 e3)) (.val (resN (firstE (secE (bladeE cs1 n1 cs2 n2 ρ 3) (flowE w s q) ring 3) (indE a d)) (infE (ρ (4 * ring.toNat)) w s a d)) H') :=
  one_tree (C := CG) (n := 60) (secT (tru (okB ⟨n1, c1, n2, c2, 3, 3, false⟩ [cs1, cs2, ringC ρ 3])) (bladeE cs1 n1 cs2 n2 ρ 3) (flowE w s q) ring 3 (fun e => finK e (indE a d) junk) (fun j => finK 0 (indE a d) ((goodI cs1 cs2 ρ w s q n1 c1 n2 c2 a d) j))) tsG .none (by kernel_rfl) (by kernel_rfl) (sec_fin (tru_iff.2 (show okB ⟨n1, c1, n2, c2, 3, 3, false⟩ [cs1, cs2, ringC ρ 3] from ⟨rfl, ⟨h1, h2⟩, by unfold five; simp, rfl, ringC_self ρ 3⟩)) (fun ha hi => goodI_sel h1 h2 a d ha hi))
theorem f11_17 (h1 : OkI cs1 n1 c1) (h2 : OkI cs2 n2 c2) (a d : Int) : ∃ H', Sound Tryd.prog 7 (.call Fn.rotor_Inflow ⟨[blV n1 c1 n2 c2 (sl 6 0 17 17), flV w s q, i ring, ag [i a, i d]]⟩ (hpB cs1 t1 s1 e1 cs2 t2 s2 e2 (ringC ρ 17) t3 s3 e3)) (.val (resN (firstE (secE (bladeE cs1 n1 cs2 n2 ρ 17) (flowE w s q) ring 17) (indE a d)) (infE (ρ (4 * ring.toNat)) w s a d)) H') :=
  one_tree (C := CG) (n := 60) (secT (tru (okB ⟨n1, c1, n2, c2, 17, 17, false⟩ [cs1, cs2, ringC ρ 17])) (bladeE cs1 n1 cs2 n2 ρ 17) (flowE w s q) ring 17 (fun e => finK e (indE a d) junk) (fun j => finK 0 (indE a d) ((goodI cs1 cs2 ρ w s q n1 c1 n2 c2 a d) j))) tsG .none (by kernel_rfl) (by kernel_rfl) (sec_fin (tru_iff.2 (show okB ⟨n1, c1, n2, c2, 17, 17, false⟩ [cs1, cs2, ringC ρ 17] from ⟨rfl, ⟨h1, h2⟩, by unfold five; simp, rfl, ringC_self ρ 17⟩)) (fun ha hi => goodI_sel h1 h2 a d ha hi))
theorem f14_nil (h1 : OkI cs1 n1 c1) (h2 : OkI cs2 n2 c2) (a d : Int) : ∃ H', Sound Tryd.prog 6 (.call Fn.rotor_Balance ⟨[blV n1 c1 n2 c2 (.slice none 0 0), flV w s q, i ring, ag [i a, i d]]⟩ (hp118 cs1 t1 s1 e1 cs2 t2 s2 e2)) (.val (resN (firstE (secE (bladeE cs1 n1 cs2 n2 (rhoE []) 0) (flowE w s q) ring 0) (indE a d)) (balV (scA (rhoE []) w s q n1 c1 n2 c2 ring.toNat, a, d) [cs1, cs2])) H') :=
  one_tree (C := CG) (n := 60) (secT (tru (okB ⟨n1, c1, n2, c2, 0, 0, true⟩ [cs1, cs2])) (bladeE cs1 n1 cs2 n2 (rhoE []) 0) (flowE w s q) ring 0 (fun e => finK e (indE a d) junk) (fun j => finK 0 (indE a d) ((goodB cs1 cs2 (rhoE []) w s q n1 c1 n2 c2 a d) j))) tsG .none (by kernel_rfl) (by kernel_rfl) (sec_fin (tru_iff.2 (show okB ⟨n1, c1, n2, c2, 0, 0, true⟩ [cs1, cs2] from ⟨rfl, rfl, h1, h2⟩)) (fun ha hi => goodB_sel h1 h2 a d ha hi))
theorem f14_1 (h1 : OkI cs1 n1 c1) (h2 : OkI cs2 n2 c2) (a d : Int) : ∃ H', Sound Tryd.prog 7 (.call Fn.rotor_Balance ⟨[blV n1 c1 n2 c2 (sl 6 0 1 1), flV w s q, i ring, ag [i a, i d]]⟩ (hpB cs1 t1 s1 e1 cs2 t2 s2 e2 (ringC ρ 1) t3 s3 e3)) (.val (resN (firstE (secE (bladeE cs1 n1 cs2 n2 ρ 1) (flowE w s q) ring 1) (indE a d)) (balV (scA ρ w s q n1 c1 n2 c2 ring.toNat, a, d) [cs1, cs2])) H') :=
  one_tree (C := CG) (n := 60) (secT (tru (okB ⟨n1, c1, n2, c2, 1, 1, false⟩ [cs1, cs2, ringC ρ 1])) (bladeE cs1 n1 cs2 n2 ρ 1) (flowE w s q) ring 1 (fun e => finK e (indE a d) junk) (fun j => finK 0 (indE a d) ((goodB cs1 cs2 ρ w s q n1 c1 n2 c2 a d) j))) tsG .none (by kernel_rfl) (by kernel_rfl) (sec_fin (tru_iff.2 (show okB ⟨n1, c1, n2, c2, 1, 1, false⟩ [cs1, cs2, ringC ρ 1] from ⟨rfl, ⟨h1, h2⟩, by unfold five; simp, rfl, ringC_self ρ 1⟩)) (fun ha hi => goodB_sel h1 h2 a d ha hi))
theorem f14_2 (h1 : OkI cs1 n1 c1) (h2 : OkI cs2 n2 c2) (a d : Int) : ∃ H', Sound Tryd.prog 7 (.call Fn.rotor_Balance ⟨[blV n1 c1 n2 c2 (sl 6 0 2 2), flV w s q, i ring, ag [i a, i d]]⟩ (hpB cs1 t1 s1 e1 cs2 t2 s2 e2 (ringC ρ 2) t3 s3 e3)) (.val (resN (firstE (secE (bladeE cs1 n1 cs2 n2 ρ 2) (flowE w s q) ring 2) (indE a d)) (balV (scA ρ w s q n1 c1 n2 c2 ring.toNat, a, d) [cs1, cs2])) H') :=
  one_tree (C := CG) (n := 60) (secT (tru (okB ⟨n1, c1, n2, c2, 2, 2, false⟩ [cs1, cs2, ringC ρ 2])) (bladeE cs1 n1 cs2 n2 ρ 2) (flowE w s q) ring 2 (fun e => finK e (indE a d) junk) (fun j => finK 0 (indE a d) ((goodB cs1 cs2 ρ w s q n1 c1 n2 c2 a d) j))) tsG .none (by kernel_rfl) (by kernel_rfl) (sec_fin (tru_iff.2 (show okB ⟨n1, c1, n2, c2, 2, 2, false⟩ [cs1, cs2, ringC ρ 2] from ⟨rfl, ⟨h1, h2⟩, by unfold five; simp, rfl, ringC_self ρ 2⟩)) (fun ha hi => goodB_sel h1 h2 a d ha hi))
theorem f14_3 (h1 : OkI cs1 n1 c1) (h2 : OkI cs2 n2 c2) (a d : Int) : ∃ H', Sound Tryd.prog 7 (.call Fn.rotor_Balance ⟨[blV n1 c1 n2 c2 (sl 6 0 3 3), flV w s q, i ring, ag [i a, i d]]⟩ (hpB cs1 t1 s1 e1 cs2 t2 s2 e2 (ringC ρ 3) t3 s3 e3)) (.val (resN (firstE (secE (bladeE cs1 n1 cs2 n2 ρ 3) (flowE w s q) ring 3) (indE a d)) (balV (scA ρ w s q n1 c1 n2 c2 ring.toNat, a, d) [cs1, cs2])) H') :=
  one_tree (C := CG) (n := 60) (secT (tru (okB ⟨n1, c1, n2, c2, 3, 3, false⟩ [cs1, cs2, ringC ρ 3])) (bladeE cs1 n1 cs2 n2 ρ 3) (flowE w s q) ring 3 (fun e => finK e (indE a d) junk) (fun j => finK 0 (indE a d) ((goodB cs1 cs2 ρ w s q n1 c1 n2 c2 a d) j))) tsG .none (by kernel_rfl) (by kernel_rfl) (sec_fin (tru_iff.2 (show okB ⟨n1, c1, n2, c2, 3, 3, false⟩ [cs1, cs2, ringC ρ 3] from ⟨rfl, ⟨h1, h2⟩, by unfold five; simp, rfl, ringC_self ρ 3⟩)) (fun ha hi => goodB_sel h1 h2 a d ha hi))
theorem f14_17 (h1 : OkI cs1 n1 c1) (h2 : OkI cs2 n2 c2) (a d : Int) : ∃ H', Sound Tryd.prog 7 (.call Fn.rotor_Balance ⟨[blV n1 c1 n2 c2 (sl 6 0 17 17), flV w s q, i ring, ag [i a, i d]]⟩ (hpB cs1 t1 s1 e1 cs2 t2 s2 e2 (ringC ρ 17) t3 s3 e3)) (.val (resN (firstE (secE (bladeE cs1 n1 cs2 n2 ρ 17) (flowE w s q) ring 17) (indE a d)) (balV (scA ρ w s q n1 c1 n2 c2 ring.toNat, a, d) [cs1, cs2])) H') :=
  one_tree (C := CG) (n := 60) (secT (tru (okB ⟨n1, c1, n2, c2, 17, 17, false⟩ [cs1, cs2, ringC ρ 17])) (bladeE cs1 n1 cs2 n2 ρ 17) (flowE w s q) ring 17 (fun e => finK e (indE a d) junk) (fun j => finK 0 (indE a d) ((goodB cs1 cs2 ρ w s q n1 c1 n2 c2 a d) j))) tsG .none (by kernel_rfl) (by kernel_rfl) (sec_fin (tru_iff.2 (show okB ⟨n1, c1, n2, c2, 17, 17, false⟩ [cs1, cs2, ringC ρ 17] from ⟨rfl, ⟨h1, h2⟩, by unfold five; simp, rfl, ringC_self ρ 17⟩)) (fun ha hi => goodB_sel h1 h2 a d ha hi))
end
end Go.Proofs.YtbocpikgochioaaDoor.Ways
