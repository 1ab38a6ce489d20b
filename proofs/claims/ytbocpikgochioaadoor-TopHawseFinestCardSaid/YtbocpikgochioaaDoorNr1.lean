import Derived.Test.YtbocpikgochioaaDoorMr3
import Derived.Test.YtbocpikgochioaaDoorEngOrd2
namespace Go.Proofs.YtbocpikgochioaaDoor.Ways
open Go Go.Ex
def AF (n1 n2 k : Nat) (w s q ring D : Int) : ArA := ⟨cpA_ n1 n2 (k + 1), w, s, q, ring, D, 0⟩
def cutV (z : Bool) (L n1 n2 n : Nat) : Value := ag [sl L 0 n1 n1, sl (L + 1) 0 n2 n2, cond z nilV (sl (L + 2) 0 n n)]
theorem flat10 : pow10.all Ex.flat = true := by kernel_rfl
theorem flat32 : tab32.all Ex.flat = true := by kernel_rfl
theorem flat64 : tab64.all Ex.flat = true := by kernel_rfl
theorem fe0 (y : Int) : firstE 0 y = y := by unfold firstE; rw [if_pos rfl]
theorem ok0 (y : Int) : okE 0 y = y := by unfold okE; rw [if_pos rfl]
theorem range0 {n lo hi : Int} (h1 : lo ≤ n) (h2 : n ≤ hi) : rangeE n lo hi = 0 := by unfold rangeE; rw [if_neg (by omega)]
section
variable {cs1 cs2 cs3 : List Value} {n1 n2 n : Nat}
theorem okB3_in (hI : LawIn cs1 cs2 cs3 n1 n2 n) : okB3 (argA n1 n2 n) [cs1, cs2, cs3] := ⟨rfl, ⟨hI.o1, hI.o2⟩, hI.f, rfl, hI.r3⟩
end
end Go.Proofs.YtbocpikgochioaaDoor.Ways
namespace Go.Proofs.YtbocpikgochioaaDoor.Ways
open Go Go.Ex
/-! ### forces -/
def syN : Nat → Nat → Bool := on_ [(Fn.rotor_section_torque, 25), (Fn.rotor_section_torque, 26), (Fn.rotor_section_torque, 32), (Fn.rotor_section_torque, 33)]
noncomputable def CNa : Cfg := ⟨TXf, no_, syN, noL⟩
def torE (r c p y lift drag : Int) : Int := wrapF .i64 (wrapF .i64 (wrapF .i64 (r * c) * p) * wrapF .i64 (wrapF .i64 (y * lift) - wrapF .i64 (1024 * drag)))
def okTor (a : ScA × Int) : List (List Value) → Prop
  | [cs1, cs2] => OkI cs1 a.1.n1 a.1.c1 ∧ OkI cs2 a.1.n2 a.1.c2 ∧ 1 ≤ a.1.n1 ∧ a.1.n1 = a.1.n2
  | _ => False
def torV (a : ScA) (css : List (List Value)) (y : Int) : Int :=
  match css with
  | [cs1, cs2] => torE a.r a.c a.p y (liftE cs1 (clE (wrapF .i64 (y - a.t)) a.n1)) (liftE cs2 (clE (wrapF .i64 (y - a.t)) a.n1))
  | _ => 0
theorem okTor_fl {a : ScA × Int} {css : List (List Value)} (h : okTor a css) : fl2 css := by
  unfold okTor at h
  split at h
  · exact ⟨h.1.1, h.2.1.1⟩
  · cases h
theorem tor_small : ∀ a css os, okTor a css → Blks css os → ∃ H', Sound Tryd.prog (gl + css.length) (.call Fn.rotor_section_torque ⟨[a.1.val, i a.2]⟩ (heapL (deads ++ os))) (.val (i (torV a.1 css a.2)) H') := by
  intro a css os h hb
  have h0 := okTor_fl h
  obtain ⟨⟨r, c, t, p, w, s, n1, c1, n2, c2⟩, y⟩ := a
  obtain ⟨cs1, t1, s1, e1, cs2, t2, s2, e2, rfl, rfl⟩ := fl2_blks h0 hb
  obtain ⟨g1, g2, g3, g4⟩ := h
  let cl : Int := clE (wrapF .i64 (y - t)) n1
  refine one_tree (C := CNa) (n := 40) (askB (tru (fl2 [cs1, cs2])) (askB (leF 0 cl && (ltF cl n1 && decide (n1 ≤ c1))) (askB (isCellB (.i .i64) cs1[0 + cl.toNat * 1]?) (askB (leF 0 cl && (ltF cl n2 && decide (n2 ≤ c2))) (askB (isCellB (.i .i64) cs2[0 + cl.toNat * 1]?) (.leaf (i (torE r c p y (liftE cs1 cl) (liftE cs2 cl))))))))) tsXf .none (by kernel_rfl) (by kernel_rfl) ?_
  obtain ⟨k1, k2⟩ := cl_ask g1 g3 (wrapF .i64 (y - t))
  obtain ⟨k3, k4⟩ := cl_ask g2 (by rw [← g4]; exact g3) (wrapF .i64 (y - t))
  have g4' : n1 = n2 := g4
  subst g4'
  rw [askB_sel (tru_iff.2 h0), askB_sel k1, askB_sel k2, askB_sel k3, askB_sel k4]
  rfl
noncomputable def TNa : Tb := ext TXf Fn.rotor_section_torque (rdE rdSX okTor (fun a css => i (torV a.1 css a.2)) [] (heapL deads))
theorem tsNa {G : Nat} : TSound Tryd.prog G TNa :=
  tsXf.ext (rd_ok (fun a => [a.1.val, i a.2]) deads_len deads_flat deads_mem rdSX_ok (fun _ _ h => fl2_flat (okTor_fl h)) (fun _ _ _ => rfl) tor_small)
end Go.Proofs.YtbocpikgochioaaDoor.Ways
namespace Go.Proofs.YtbocpikgochioaaDoor.Ways
open Go Go.Ex
noncomputable def BT : Code := bodyL Tryd.f69 5
noncomputable def CTa : Cfg := ⟨TNa, at_ [(Fn.rotor_section_torques, 41)] .bool no_, off_, noL⟩
def minI (a b : Int) : Int := if b < a then b else a
def xT (x0 : Int) : Nat → Int
  | 0 => x0
  | j + 1 => wrapF .i64 (xT x0 j + 1)
def lsT (F T x0 : Int) (j : Nat) : List Value := i F :: i T :: (List.range j).map fun t => i (xT x0 t)
def slT : Nat → Value
  | 0 => sl 9 0 2 2
  | j + 1 => sl 10 0 (j + 3) (j + 3)
def tlT (F T x0 : Int) : Nat → List (CO × Bool)
  | 0 => [(.cells [i F, i T] 3 1 true, false)]
  | j + 1 => [(.dead, false), (.cells (lsT F T x0 (j + 1)) 3 1 false, false)]
def lnT : Nat → Nat
  | 0 => 10
  | _ + 1 => 11
def stT (F T fi la x0 : Int) (j : Nat) : List (Nat × Value) := [(2, pt 6 0), (3, pt 7 0), (4, pt 8 0), (5, i F), (6, i T), (7, slT j), (8, i fi), (9, i la), (10, i (xT x0 j))]
def hpT (a : ScA) (x d : Int) (cs1 cs2 : List Value) (t1 s1 : Nat) (e1 : Bool) (t2 s2 : Nat) (e2 : Bool) (F T x0 : Int) (j : Nat) : List (CO × Bool) :=
  dd6 cs1 t1 s1 e1 cs2 t2 s2 e2 ++ [(.cells [i a.r, i a.c, i a.t, i a.p, sl 4 0 a.n1 a.c1, sl 5 0 a.n2 a.c2, i a.w, i a.s] 117 1 true, false), (.cells [i x, i d] 53 1 true, false), (.cells [i 0, i 0] 61 1 true, false)] ++ tlT F T x0 j
section
variable {a : ScA} {x d : Int} {cs1 cs2 : List Value} {t1 s1 t2 s2 : Nat} {e1 e2 : Bool} {F T fi la x0 : Int}
theorem flatT (h1 : cs1.all Ex.flat = true) (h2 : cs2.all Ex.flat = true) (j : Nat) : ∀ o, (o, true) ∈ hpT a x d cs1 cs2 t1 s1 e1 t2 s2 e2 F T x0 j → FlatO o := by
  intro o ho
  unfold hpT at ho
  rcases List.mem_append.1 ho with ho | ho
  · rcases List.mem_append.1 ho with ho | ho
    · exact flat6 h1 h2 o ho
    · simp at ho
  · cases j with
    | zero => simp [tlT] at ho
    | succ j => simp [tlT] at ho
theorem tround0 (h1 : cs1.all Ex.flat = true) (h2 : cs2.all Ex.flat = true) (ro : Option Nat) (hx : xT x0 0 ≤ minI T la) :
    ∃ tm1 H1, Sound Tryd.prog 6 (.code BT ro (absT (tmL 57 (stT F T fi la x0 0))) (heapL ((hpT a x d cs1 cs2 t1 s1 e1 t2 s2 e2 F T x0 0).map (·.1))) []) (.ex .normal tm1 H1 []) ∧ Restate 10 tm1 H1 (absT (tmL 57 (stT F T fi la x0 1))) (heapL ((hpT a x d cs1 cs2 t1 s1 e1 t2 s2 e2 F T x0 1).map (·.1))) := by
  have hq : [leF (xT x0 0) (minI T la)] = List.take [leF (xT x0 0) (minI T la)].length [true] := by
    have g1 : leF (xT x0 0) (minI T la) = true := by rw [leF_eq]; exact decide_eq_true hx
    rw [g1]; rfl
  have hk := round_of (P := Tryd.prog) (G := 6) (C := CTa) (n := 60) (f := Fn.rotor_section_torques) (b := BT) (ro := ro) (tm := tmL 57 (stT F T fi la x0 0)) (H := heapL ((hpT a x d cs1 cs2 t1 s1 e1 t2 s2 e2 F T x0 0).map (·.1))) (df := []) (df1 := []) (k := 10) (N := 57) (len := 12) (x := .normal) [0, 1, 2, 3, 4, 5, 6, 7, 8, 9, 11] (stT F T fi la x0 1) (hpT a x d cs1 cs2 t1 s1 e1 t2 s2 e2 F T x0 1) [true] [leF (xT x0 0) (minI T la)] tsNa .none (by kernel_rfl) (by kernel_rfl) hq (by kernel_rfl) (flatT h1 h2 1)
  exact hk
theorem tround1 (h1 : cs1.all Ex.flat = true) (h2 : cs2.all Ex.flat = true) (ro : Option Nat) (hx : xT x0 1 ≤ minI T la) :
    ∃ tm1 H1, Sound Tryd.prog 6 (.code BT ro (absT (tmL 57 (stT F T fi la x0 1))) (heapL ((hpT a x d cs1 cs2 t1 s1 e1 t2 s2 e2 F T x0 1).map (·.1))) []) (.ex .normal tm1 H1 []) ∧ Restate 10 tm1 H1 (absT (tmL 57 (stT F T fi la x0 2))) (heapL ((hpT a x d cs1 cs2 t1 s1 e1 t2 s2 e2 F T x0 2).map (·.1))) := by
  have hq : [leF (xT x0 1) (minI T la)] = List.take [leF (xT x0 1) (minI T la)].length [true] := by
    have g1 : leF (xT x0 1) (minI T la) = true := by rw [leF_eq]; exact decide_eq_true hx
    rw [g1]; rfl
  have hk := round_of (P := Tryd.prog) (G := 6) (C := CTa) (n := 60) (f := Fn.rotor_section_torques) (b := BT) (ro := ro) (tm := tmL 57 (stT F T fi la x0 1)) (H := heapL ((hpT a x d cs1 cs2 t1 s1 e1 t2 s2 e2 F T x0 1).map (·.1))) (df := []) (df1 := []) (k := 10) (N := 57) (len := 13) (x := .normal) [0, 1, 2, 3, 4, 5, 6, 7, 8, 9, 12] (stT F T fi la x0 2) (hpT a x d cs1 cs2 t1 s1 e1 t2 s2 e2 F T x0 2) [true] [leF (xT x0 1) (minI T la)] tsNa .none (by kernel_rfl) (by kernel_rfl) hq (by kernel_rfl) (flatT h1 h2 2)
  exact hk
theorem tround2 (h1 : cs1.all Ex.flat = true) (h2 : cs2.all Ex.flat = true) (ro : Option Nat) (hx : xT x0 2 ≤ minI T la) :
    ∃ tm1 H1, Sound Tryd.prog 6 (.code BT ro (absT (tmL 57 (stT F T fi la x0 2))) (heapL ((hpT a x d cs1 cs2 t1 s1 e1 t2 s2 e2 F T x0 2).map (·.1))) []) (.ex .normal tm1 H1 []) ∧ Restate 10 tm1 H1 (absT (tmL 57 (stT F T fi la x0 3))) (heapL ((hpT a x d cs1 cs2 t1 s1 e1 t2 s2 e2 F T x0 3).map (·.1))) := by
  have hq : [leF (xT x0 2) (minI T la)] = List.take [leF (xT x0 2) (minI T la)].length [true] := by
    have g1 : leF (xT x0 2) (minI T la) = true := by rw [leF_eq]; exact decide_eq_true hx
    rw [g1]; rfl
  have hk := round_of (P := Tryd.prog) (G := 6) (C := CTa) (n := 60) (f := Fn.rotor_section_torques) (b := BT) (ro := ro) (tm := tmL 57 (stT F T fi la x0 2)) (H := heapL ((hpT a x d cs1 cs2 t1 s1 e1 t2 s2 e2 F T x0 2).map (·.1))) (df := []) (df1 := []) (k := 10) (N := 57) (len := 13) (x := .normal) [0, 1, 2, 3, 4, 5, 6, 7, 8, 9, 12] (stT F T fi la x0 3) (hpT a x d cs1 cs2 t1 s1 e1 t2 s2 e2 F T x0 3) [true] [leF (xT x0 2) (minI T la)] tsNa .none (by kernel_rfl) (by kernel_rfl) hq (by kernel_rfl) (flatT h1 h2 3)
  exact hk
theorem tround3 (h1 : cs1.all Ex.flat = true) (h2 : cs2.all Ex.flat = true) (ro : Option Nat) (hx : xT x0 3 ≤ minI T la) :
    ∃ tm1 H1, Sound Tryd.prog 6 (.code BT ro (absT (tmL 57 (stT F T fi la x0 3))) (heapL ((hpT a x d cs1 cs2 t1 s1 e1 t2 s2 e2 F T x0 3).map (·.1))) []) (.ex .normal tm1 H1 []) ∧ Restate 10 tm1 H1 (absT (tmL 57 (stT F T fi la x0 4))) (heapL ((hpT a x d cs1 cs2 t1 s1 e1 t2 s2 e2 F T x0 4).map (·.1))) := by
  have hq : [leF (xT x0 3) (minI T la)] = List.take [leF (xT x0 3) (minI T la)].length [true] := by
    have g1 : leF (xT x0 3) (minI T la) = true := by rw [leF_eq]; exact decide_eq_true hx
    rw [g1]; rfl
  have hk := round_of (P := Tryd.prog) (G := 6) (C := CTa) (n := 60) (f := Fn.rotor_section_torques) (b := BT) (ro := ro) (tm := tmL 57 (stT F T fi la x0 3)) (H := heapL ((hpT a x d cs1 cs2 t1 s1 e1 t2 s2 e2 F T x0 3).map (·.1))) (df := []) (df1 := []) (k := 10) (N := 57) (len := 13) (x := .normal) [0, 1, 2, 3, 4, 5, 6, 7, 8, 9, 12] (stT F T fi la x0 4) (hpT a x d cs1 cs2 t1 s1 e1 t2 s2 e2 F T x0 4) [true] [leF (xT x0 3) (minI T la)] tsNa .none (by kernel_rfl) (by kernel_rfl) hq (by kernel_rfl) (flatT h1 h2 4)
  exact hk
theorem tround4 (h1 : cs1.all Ex.flat = true) (h2 : cs2.all Ex.flat = true) (ro : Option Nat) (hx : xT x0 4 ≤ minI T la) :
    ∃ tm1 H1, Sound Tryd.prog 6 (.code BT ro (absT (tmL 57 (stT F T fi la x0 4))) (heapL ((hpT a x d cs1 cs2 t1 s1 e1 t2 s2 e2 F T x0 4).map (·.1))) []) (.ex .normal tm1 H1 []) ∧ Restate 10 tm1 H1 (absT (tmL 57 (stT F T fi la x0 5))) (heapL ((hpT a x d cs1 cs2 t1 s1 e1 t2 s2 e2 F T x0 5).map (·.1))) := by
  have hq : [leF (xT x0 4) (minI T la)] = List.take [leF (xT x0 4) (minI T la)].length [true] := by
    have g1 : leF (xT x0 4) (minI T la) = true := by rw [leF_eq]; exact decide_eq_true hx
    rw [g1]; rfl
  have hk := round_of (P := Tryd.prog) (G := 6) (C := CTa) (n := 60) (f := Fn.rotor_section_torques) (b := BT) (ro := ro) (tm := tmL 57 (stT F T fi la x0 4)) (H := heapL ((hpT a x d cs1 cs2 t1 s1 e1 t2 s2 e2 F T x0 4).map (·.1))) (df := []) (df1 := []) (k := 10) (N := 57) (len := 13) (x := .normal) [0, 1, 2, 3, 4, 5, 6, 7, 8, 9, 12] (stT F T fi la x0 5) (hpT a x d cs1 cs2 t1 s1 e1 t2 s2 e2 F T x0 5) [true] [leF (xT x0 4) (minI T la)] tsNa .none (by kernel_rfl) (by kernel_rfl) hq (by kernel_rfl) (flatT h1 h2 5)
  exact hk
theorem tend0 (h1 : cs1.all Ex.flat = true) (h2 : cs2.all Ex.flat = true) (ro : Option Nat) (hx : ¬ xT x0 0 ≤ minI T la) :
    ∃ tm1 H1, Sound Tryd.prog 6 (.code BT ro (absT (tmL 57 (stT F T fi la x0 0))) (heapL ((hpT a x d cs1 cs2 t1 s1 e1 t2 s2 e2 F T x0 0).map (·.1))) []) (.ex (.exit 0) tm1 H1 []) ∧ Restate 10 tm1 H1 (absT (tmL 57 (stT F T fi la x0 0))) (heapL ((hpT a x d cs1 cs2 t1 s1 e1 t2 s2 e2 F T x0 0).map (·.1))) := by
  have hq : [leF (xT x0 0) (minI T la)] = List.take [leF (xT x0 0) (minI T la)].length [false] := by
    have g1 : leF (xT x0 0) (minI T la) = false := by rw [leF_eq]; exact decide_eq_false hx
    rw [g1]; rfl
  have hk := round_of (P := Tryd.prog) (G := 6) (C := CTa) (n := 60) (f := Fn.rotor_section_torques) (b := BT) (ro := ro) (tm := tmL 57 (stT F T fi la x0 0)) (H := heapL ((hpT a x d cs1 cs2 t1 s1 e1 t2 s2 e2 F T x0 0).map (·.1))) (df := []) (df1 := []) (k := 10) (N := 57) (len := 10) (x := .exit 0) (List.range 10) (stT F T fi la x0 0) (hpT a x d cs1 cs2 t1 s1 e1 t2 s2 e2 F T x0 0) [false] [leF (xT x0 0) (minI T la)] tsNa .none (by kernel_rfl) (by kernel_rfl) hq (by kernel_rfl) (flatT h1 h2 0)
  exact hk
theorem tend1 (h1 : cs1.all Ex.flat = true) (h2 : cs2.all Ex.flat = true) (ro : Option Nat) (hx : ¬ xT x0 1 ≤ minI T la) :
    ∃ tm1 H1, Sound Tryd.prog 6 (.code BT ro (absT (tmL 57 (stT F T fi la x0 1))) (heapL ((hpT a x d cs1 cs2 t1 s1 e1 t2 s2 e2 F T x0 1).map (·.1))) []) (.ex (.exit 0) tm1 H1 []) ∧ Restate 10 tm1 H1 (absT (tmL 57 (stT F T fi la x0 1))) (heapL ((hpT a x d cs1 cs2 t1 s1 e1 t2 s2 e2 F T x0 1).map (·.1))) := by
  have hq : [leF (xT x0 1) (minI T la)] = List.take [leF (xT x0 1) (minI T la)].length [false] := by
    have g1 : leF (xT x0 1) (minI T la) = false := by rw [leF_eq]; exact decide_eq_false hx
    rw [g1]; rfl
  have hk := round_of (P := Tryd.prog) (G := 6) (C := CTa) (n := 60) (f := Fn.rotor_section_torques) (b := BT) (ro := ro) (tm := tmL 57 (stT F T fi la x0 1)) (H := heapL ((hpT a x d cs1 cs2 t1 s1 e1 t2 s2 e2 F T x0 1).map (·.1))) (df := []) (df1 := []) (k := 10) (N := 57) (len := 11) (x := .exit 0) (List.range 11) (stT F T fi la x0 1) (hpT a x d cs1 cs2 t1 s1 e1 t2 s2 e2 F T x0 1) [false] [leF (xT x0 1) (minI T la)] tsNa .none (by kernel_rfl) (by kernel_rfl) hq (by kernel_rfl) (flatT h1 h2 1)
  exact hk
theorem tend2 (h1 : cs1.all Ex.flat = true) (h2 : cs2.all Ex.flat = true) (ro : Option Nat) (hx : ¬ xT x0 2 ≤ minI T la) :
    ∃ tm1 H1, Sound Tryd.prog 6 (.code BT ro (absT (tmL 57 (stT F T fi la x0 2))) (heapL ((hpT a x d cs1 cs2 t1 s1 e1 t2 s2 e2 F T x0 2).map (·.1))) []) (.ex (.exit 0) tm1 H1 []) ∧ Restate 10 tm1 H1 (absT (tmL 57 (stT F T fi la x0 2))) (heapL ((hpT a x d cs1 cs2 t1 s1 e1 t2 s2 e2 F T x0 2).map (·.1))) := by
  have hq : [leF (xT x0 2) (minI T la)] = List.take [leF (xT x0 2) (minI T la)].length [false] := by
    have g1 : leF (xT x0 2) (minI T la) = false := by rw [leF_eq]; exact decide_eq_false hx
    rw [g1]; rfl
  have hk := round_of (P := Tryd.prog) (G := 6) (C := CTa) (n := 60) (f := Fn.rotor_section_torques) (b := BT) (ro := ro) (tm := tmL 57 (stT F T fi la x0 2)) (H := heapL ((hpT a x d cs1 cs2 t1 s1 e1 t2 s2 e2 F T x0 2).map (·.1))) (df := []) (df1 := []) (k := 10) (N := 57) (len := 11) (x := .exit 0) (List.range 11) (stT F T fi la x0 2) (hpT a x d cs1 cs2 t1 s1 e1 t2 s2 e2 F T x0 2) [false] [leF (xT x0 2) (minI T la)] tsNa .none (by kernel_rfl) (by kernel_rfl) hq (by kernel_rfl) (flatT h1 h2 2)
  exact hk
theorem tend3 (h1 : cs1.all Ex.flat = true) (h2 : cs2.all Ex.flat = true) (ro : Option Nat) (hx : ¬ xT x0 3 ≤ minI T la) :
    ∃ tm1 H1, Sound Tryd.prog 6 (.code BT ro (absT (tmL 57 (stT F T fi la x0 3))) (heapL ((hpT a x d cs1 cs2 t1 s1 e1 t2 s2 e2 F T x0 3).map (·.1))) []) (.ex (.exit 0) tm1 H1 []) ∧ Restate 10 tm1 H1 (absT (tmL 57 (stT F T fi la x0 3))) (heapL ((hpT a x d cs1 cs2 t1 s1 e1 t2 s2 e2 F T x0 3).map (·.1))) := by
  have hq : [leF (xT x0 3) (minI T la)] = List.take [leF (xT x0 3) (minI T la)].length [false] := by
    have g1 : leF (xT x0 3) (minI T la) = false := by rw [leF_eq]; exact decide_eq_false hx
    rw [g1]; rfl
  have hk := round_of (P := Tryd.prog) (G := 6) (C := CTa) (n := 60) (f := Fn.rotor_section_torques) (b := BT) (ro := ro) (tm := tmL 57 (stT F T fi la x0 3)) (H := heapL ((hpT a x d cs1 cs2 t1 s1 e1 t2 s2 e2 F T x0 3).map (·.1))) (df := []) (df1 := []) (k := 10) (N := 57) (len := 11) (x := .exit 0) (List.range 11) (stT F T fi la x0 3) (hpT a x d cs1 cs2 t1 s1 e1 t2 s2 e2 F T x0 3) [false] [leF (xT x0 3) (minI T la)] tsNa .none (by kernel_rfl) (by kernel_rfl) hq (by kernel_rfl) (flatT h1 h2 3)
  exact hk
theorem tend4 (h1 : cs1.all Ex.flat = true) (h2 : cs2.all Ex.flat = true) (ro : Option Nat) (hx : ¬ xT x0 4 ≤ minI T la) :
    ∃ tm1 H1, Sound Tryd.prog 6 (.code BT ro (absT (tmL 57 (stT F T fi la x0 4))) (heapL ((hpT a x d cs1 cs2 t1 s1 e1 t2 s2 e2 F T x0 4).map (·.1))) []) (.ex (.exit 0) tm1 H1 []) ∧ Restate 10 tm1 H1 (absT (tmL 57 (stT F T fi la x0 4))) (heapL ((hpT a x d cs1 cs2 t1 s1 e1 t2 s2 e2 F T x0 4).map (·.1))) := by
  have hq : [leF (xT x0 4) (minI T la)] = List.take [leF (xT x0 4) (minI T la)].length [false] := by
    have g1 : leF (xT x0 4) (minI T la) = false := by rw [leF_eq]; exact decide_eq_false hx
    rw [g1]; rfl
  have hk := round_of (P := Tryd.prog) (G := 6) (C := CTa) (n := 60) (f := Fn.rotor_section_torques) (b := BT) (ro := ro) (tm := tmL 57 (stT F T fi la x0 4)) (H := heapL ((hpT a x d cs1 cs2 t1 s1 e1 t2 s2 e2 F T x0 4).map (·.1))) (df := []) (df1 := []) (k := 10) (N := 57) (len := 11) (x := .exit 0) (List.range 11) (stT F T fi la x0 4) (hpT a x d cs1 cs2 t1 s1 e1 t2 s2 e2 F T x0 4) [false] [leF (xT x0 4) (minI T la)] tsNa .none (by kernel_rfl) (by kernel_rfl) hq (by kernel_rfl) (flatT h1 h2 4)
  exact hk
theorem tend5 (h1 : cs1.all Ex.flat = true) (h2 : cs2.all Ex.flat = true) (ro : Option Nat) (hx : ¬ xT x0 5 ≤ minI T la) :
    ∃ tm1 H1, Sound Tryd.prog 6 (.code BT ro (absT (tmL 57 (stT F T fi la x0 5))) (heapL ((hpT a x d cs1 cs2 t1 s1 e1 t2 s2 e2 F T x0 5).map (·.1))) []) (.ex (.exit 0) tm1 H1 []) ∧ Restate 10 tm1 H1 (absT (tmL 57 (stT F T fi la x0 5))) (heapL ((hpT a x d cs1 cs2 t1 s1 e1 t2 s2 e2 F T x0 5).map (·.1))) := by
  have hq : [leF (xT x0 5) (minI T la)] = List.take [leF (xT x0 5) (minI T la)].length [false] := by
    have g1 : leF (xT x0 5) (minI T la) = false := by rw [leF_eq]; exact decide_eq_false hx
    rw [g1]; rfl
  have hk := round_of (P := Tryd.prog) (G := 6) (C := CTa) (n := 60) (f := Fn.rotor_section_torques) (b := BT) (ro := ro) (tm := tmL 57 (stT F T fi la x0 5)) (H := heapL ((hpT a x d cs1 cs2 t1 s1 e1 t2 s2 e2 F T x0 5).map (·.1))) (df := []) (df1 := []) (k := 10) (N := 57) (len := 11) (x := .exit 0) (List.range 11) (stT F T fi la x0 5) (hpT a x d cs1 cs2 t1 s1 e1 t2 s2 e2 F T x0 5) [false] [leF (xT x0 5) (minI T la)] tsNa .none (by kernel_rfl) (by kernel_rfl) hq (by kernel_rfl) (flatT h1 h2 5)
  exact hk
theorem tround_all (h1 : cs1.all Ex.flat = true) (h2 : cs2.all Ex.flat = true) (j : Nat) (hj : j ≤ 4) (ro : Option Nat) (hx : xT x0 j ≤ minI T la) :
    ∃ tm1 H1, Sound Tryd.prog 6 (.code BT ro (absT (tmL 57 (stT F T fi la x0 j))) (heapL ((hpT a x d cs1 cs2 t1 s1 e1 t2 s2 e2 F T x0 j).map (·.1))) []) (.ex .normal tm1 H1 []) ∧ Restate 10 tm1 H1 (absT (tmL 57 (stT F T fi la x0 (j + 1)))) (heapL ((hpT a x d cs1 cs2 t1 s1 e1 t2 s2 e2 F T x0 (j + 1)).map (·.1))) := by
  have : j = 0 ∨ j = 1 ∨ j = 2 ∨ j = 3 ∨ j = 4 := by omega
  rcases this with rfl | rfl | rfl | rfl | rfl
  · have hk := tround0 (a := a) (x := x) (d := d) (cs1 := cs1) (cs2 := cs2) (t1 := t1) (s1 := s1) (t2 := t2) (s2 := s2) (e1 := e1) (e2 := e2) (F := F) (T := T) (fi := fi) (la := la) (x0 := x0) h1 h2 ro hx
    exact hk
  · have hk := tround1 (a := a) (x := x) (d := d) (cs1 := cs1) (cs2 := cs2) (t1 := t1) (s1 := s1) (t2 := t2) (s2 := s2) (e1 := e1) (e2 := e2) (F := F) (T := T) (fi := fi) (la := la) (x0 := x0) h1 h2 ro hx
    exact hk
  · have hk := tround2 (a := a) (x := x) (d := d) (cs1 := cs1) (cs2 := cs2) (t1 := t1) (s1 := s1) (t2 := t2) (s2 := s2) (e1 := e1) (e2 := e2) (F := F) (T := T) (fi := fi) (la := la) (x0 := x0) h1 h2 ro hx
    exact hk
  · have hk := tround3 (a := a) (x := x) (d := d) (cs1 := cs1) (cs2 := cs2) (t1 := t1) (s1 := s1) (t2 := t2) (s2 := s2) (e1 := e1) (e2 := e2) (F := F) (T := T) (fi := fi) (la := la) (x0 := x0) h1 h2 ro hx
    exact hk
  · have hk := tround4 (a := a) (x := x) (d := d) (cs1 := cs1) (cs2 := cs2) (t1 := t1) (s1 := s1) (t2 := t2) (s2 := s2) (e1 := e1) (e2 := e2) (F := F) (T := T) (fi := fi) (la := la) (x0 := x0) h1 h2 ro hx
    exact hk
theorem tend_all (h1 : cs1.all Ex.flat = true) (h2 : cs2.all Ex.flat = true) (j : Nat) (hj : j ≤ 5) (ro : Option Nat) (hx : ¬ xT x0 j ≤ minI T la) :
    ∃ tm1 H1, Sound Tryd.prog 6 (.code BT ro (absT (tmL 57 (stT F T fi la x0 j))) (heapL ((hpT a x d cs1 cs2 t1 s1 e1 t2 s2 e2 F T x0 j).map (·.1))) []) (.ex (.exit 0) tm1 H1 []) ∧ Restate 10 tm1 H1 (absT (tmL 57 (stT F T fi la x0 j))) (heapL ((hpT a x d cs1 cs2 t1 s1 e1 t2 s2 e2 F T x0 j).map (·.1))) := by
  have : j = 0 ∨ j = 1 ∨ j = 2 ∨ j = 3 ∨ j = 4 ∨ j = 5 := by omega
  rcases this with rfl | rfl | rfl | rfl | rfl | rfl
  · have hk := tend0 (a := a) (x := x) (d := d) (cs1 := cs1) (cs2 := cs2) (t1 := t1) (s1 := s1) (t2 := t2) (s2 := s2) (e1 := e1) (e2 := e2) (F := F) (T := T) (fi := fi) (la := la) (x0 := x0) h1 h2 ro hx
    exact hk
  · have hk := tend1 (a := a) (x := x) (d := d) (cs1 := cs1) (cs2 := cs2) (t1 := t1) (s1 := s1) (t2 := t2) (s2 := s2) (e1 := e1) (e2 := e2) (F := F) (T := T) (fi := fi) (la := la) (x0 := x0) h1 h2 ro hx
    exact hk
  · have hk := tend2 (a := a) (x := x) (d := d) (cs1 := cs1) (cs2 := cs2) (t1 := t1) (s1 := s1) (t2 := t2) (s2 := s2) (e1 := e1) (e2 := e2) (F := F) (T := T) (fi := fi) (la := la) (x0 := x0) h1 h2 ro hx
    exact hk
  · have hk := tend3 (a := a) (x := x) (d := d) (cs1 := cs1) (cs2 := cs2) (t1 := t1) (s1 := s1) (t2 := t2) (s2 := s2) (e1 := e1) (e2 := e2) (F := F) (T := T) (fi := fi) (la := la) (x0 := x0) h1 h2 ro hx
    exact hk
  · have hk := tend4 (a := a) (x := x) (d := d) (cs1 := cs1) (cs2 := cs2) (t1 := t1) (s1 := s1) (t2 := t2) (s2 := s2) (e1 := e1) (e2 := e2) (F := F) (T := T) (fi := fi) (la := la) (x0 := x0) h1 h2 ro hx
    exact hk
  · have hk := tend5 (a := a) (x := x) (d := d) (cs1 := cs1) (cs2 := cs2) (t1 := t1) (s1 := s1) (t2 := t2) (s2 := s2) (e1 := e1) (e2 := e2) (F := F) (T := T) (fi := fi) (la := la) (x0 := x0) h1 h2 ro hx
    exact hk
theorem tloop (h1 : cs1.all Ex.flat = true) (h2 : cs2.all Ex.flat = true) (m : Nat) (hm : m ≤ 5) (hr : ∀ j, j < m → xT x0 j ≤ minI T la) (he : ¬ xT x0 m ≤ minI T la) (ro : Option Nat) {tm0 : Array Value} {H0 : CH} (hk : H0.length = 10)
    (hst : Restate 10 tm0 H0 (absT (tmL 57 (stT F T fi la x0 0))) (heapL ((hpT a x d cs1 cs2 t1 s1 e1 t2 s2 e2 F T x0 0).map (·.1)))) :
    Sound Tryd.prog 6 (.code (.loop BT) ro tm0 H0 []) (.ex (.exit 0) (absT (tmL 57 (stT F T fi la x0 m))) (heapL ((hpT a x d cs1 cs2 t1 s1 e1 t2 s2 e2 F T x0 m).map (·.1))) []) :=
  count_loop (P := Tryd.prog) (G := 6) (b := BT) (N := 57) (k := 10) (st := stT F T fi la x0) (hp := hpT a x d cs1 cs2 t1 s1 e1 t2 s2 e2 F T x0) (lF := stT F T fi la x0 m) (x := .exit 0) m (fun h => by cases h) (fun j ro hj => tround_all h1 h2 j (by omega) ro (hr j hj)) (fun ro => tend_all h1 h2 m hm ro he) ro hk (by omega) hst
end
end Go.Proofs.YtbocpikgochioaaDoor.Ways
namespace Go.Proofs.YtbocpikgochioaaDoor.Ways
open Go Go.Ex
def maxI (a b : Int) : Int := if b > a then b else a
def minL : List Int → Int
  | [] => 0
  | x :: l => l.foldl minI x
def maxL : List Int → Int
  | [] => 0
  | x :: l => l.foldl maxI x
def asksL : List Bool → VT → VT
  | [], t => t
  | b :: l, t => askB b (asksL l t)
theorem asksL_sel {t : VT} : ∀ {l : List Bool}, (∀ b ∈ l, b = true) → (asksL l t).sel = t.sel
  | [], _ => rfl
  | b :: l, h => by
    show (askB b (asksL l t)).sel = _
    rw [askB_sel (h b (List.mem_cons_self ..)), asksL_sel fun c hc => h c (List.mem_cons_of_mem _ hc)]
def toF (a : ScA) (x d : Int) : Int := infE a.r a.w a.s (wrapF .i64 (x + 1)) d
def toT (a : ScA) (x d : Int) : Int := infE a.r a.w a.s x d
def toLa (a : ScA) : Int := wrapF .i64 (wrapF .i64 (a.t + (a.n1 : Int)) - 1)
def toX (a : ScA) (x d : Int) : Int := maxI (toF a x d) a.t
/-- the inflows that are looked at -/
def ysT (a : ScA) (x d : Int) (m : Nat) : List Int := toF a x d :: toT a x d :: (List.range m).map fun t => xT (toX a x d) t
def torsV (a : ScA) (css : List (List Value)) (x d : Int) (m : Nat) : Value := ag [i (minL ((ysT a x d m).map (torV a css))), i (maxL ((ysT a x d m).map (torV a css)))]
section
variable (a : ScA) (x d : Int) (cs1 cs2 : List Value) (t1 s1 t2 s2 : Nat) (e1 e2 : Bool)
noncomputable def LT (m : Nat) : LTab := loopE noL Fn.rotor_section_torques 5 57 10 BT (stT (toF a x d) (toT a x d) a.t (toLa a) (toX a x d) 0) (hpT a x d cs1 cs2 t1 s1 e1 t2 s2 e2 (toF a x d) (toT a x d) (toX a x d) 0) (.leaf (.ex (.exit 0) (tmL 57 (stT (toF a x d) (toT a x d) a.t (toLa a) (toX a x d) m)) (heapL ((hpT a x d cs1 cs2 t1 s1 e1 t2 s2 e2 (toF a x d) (toT a x d) (toX a x d) m).map (·.1))) []))
end
theorem gT (a : ScA) (x d : Int) (cs1 cs2 : List Value) (t1 s1 t2 s2 : Nat) (e1 e2 : Bool) : goodR 10 10 (stT (toF a x d) (toT a x d) a.t (toLa a) (toX a x d) 0) (hpT a x d cs1 cs2 t1 s1 e1 t2 s2 e2 (toF a x d) (toT a x d) (toX a x d) 0) (List.range 10) = true := by kernel_rfl
theorem lsT_ {a : ScA} {x d : Int} {cs1 cs2 : List Value} {t1 s1 t2 s2 : Nat} {e1 e2 : Bool} (h1 : cs1.all Ex.flat = true) (h2 : cs2.all Ex.flat = true) (m : Nat) (hm : m ≤ 5) (hr : ∀ j, j < m → xT (toX a x d) j ≤ minI (toT a x d) (toLa a)) (he : ¬ xT (toX a x d) m ≤ minI (toT a x d) (toLa a)) : LSound Tryd.prog 6 (LT a x d cs1 cs2 t1 s1 t2 s2 e1 e2 m) := by
  refine LSound.loop .none (gT a x d cs1 cs2 t1 s1 t2 s2 e1 e2) (flatT h1 h2 0) fun r hr2 ro tm0 H0 hk hst => ?_
  cases hr2
  exact tloop h1 h2 m hm hr he ro hk hst
noncomputable def treeT (a : ScA) (x d : Int) (css : List (List Value)) (m : Nat) : VT :=
  askB (tru (okInf (a, wrapF .i64 (x + 1), d) css)) (askB (tru (okInf (a, x, d) css)) (asksL ((ysT a x d m).map fun y => tru (okTor (a, y) css)) (.leaf (torsV a css x d m))))
theorem trun0 (a : ScA) (x d : Int) (cs1 cs2 : List Value) (t1 s1 t2 s2 : Nat) (e1 e2 : Bool) : (execO Tryd.prog 6 ⟨TNa, no_, off_, LT a x d cs1 cs2 t1 s1 t2 s2 e1 e2 0⟩ 80 (.call Fn.rotor_section_torques ⟨[a.val, ag [i x, i d]]⟩ (hp118 cs1 t1 s1 e1 cs2 t2 s2 e2))).vals = treeT a x d [cs1, cs2] 0 := by kernel_rfl
theorem tfix0 (a : ScA) (x d : Int) (cs1 cs2 : List Value) (t1 s1 t2 s2 : Nat) (e1 e2 : Bool) : execO Tryd.prog 6 ⟨TNa, no_, off_, LT a x d cs1 cs2 t1 s1 t2 s2 e1 e2 0⟩ 80 (.call Fn.rotor_section_torques ⟨[a.val, ag [i x, i d]]⟩ (hp118 cs1 t1 s1 e1 cs2 t2 s2 e2)) = (execO Tryd.prog 6 ⟨TNa, no_, off_, LT a x d cs1 cs2 t1 s1 t2 s2 e1 e2 0⟩ 80 (.call Fn.rotor_section_torques ⟨[a.val, ag [i x, i d]]⟩ (hp118 cs1 t1 s1 e1 cs2 t2 s2 e2))).fix := by kernel_rfl
theorem trun1 (a : ScA) (x d : Int) (cs1 cs2 : List Value) (t1 s1 t2 s2 : Nat) (e1 e2 : Bool) : (execO Tryd.prog 6 ⟨TNa, no_, off_, LT a x d cs1 cs2 t1 s1 t2 s2 e1 e2 1⟩ 80 (.call Fn.rotor_section_torques ⟨[a.val, ag [i x, i d]]⟩ (hp118 cs1 t1 s1 e1 cs2 t2 s2 e2))).vals = treeT a x d [cs1, cs2] 1 := by kernel_rfl
theorem tfix1 (a : ScA) (x d : Int) (cs1 cs2 : List Value) (t1 s1 t2 s2 : Nat) (e1 e2 : Bool) : execO Tryd.prog 6 ⟨TNa, no_, off_, LT a x d cs1 cs2 t1 s1 t2 s2 e1 e2 1⟩ 80 (.call Fn.rotor_section_torques ⟨[a.val, ag [i x, i d]]⟩ (hp118 cs1 t1 s1 e1 cs2 t2 s2 e2)) = (execO Tryd.prog 6 ⟨TNa, no_, off_, LT a x d cs1 cs2 t1 s1 t2 s2 e1 e2 1⟩ 80 (.call Fn.rotor_section_torques ⟨[a.val, ag [i x, i d]]⟩ (hp118 cs1 t1 s1 e1 cs2 t2 s2 e2))).fix := by kernel_rfl
theorem trun2 (a : ScA) (x d : Int) (cs1 cs2 : List Value) (t1 s1 t2 s2 : Nat) (e1 e2 : Bool) : (execO Tryd.prog 6 ⟨TNa, no_, off_, LT a x d cs1 cs2 t1 s1 t2 s2 e1 e2 2⟩ 80 (.call Fn.rotor_section_torques ⟨[a.val, ag [i x, i d]]⟩ (hp118 cs1 t1 s1 e1 cs2 t2 s2 e2))).vals = treeT a x d [cs1, cs2] 2 := by kernel_rfl
theorem tfix2 (a : ScA) (x d : Int) (cs1 cs2 : List Value) (t1 s1 t2 s2 : Nat) (e1 e2 : Bool) : execO Tryd.prog 6 ⟨TNa, no_, off_, LT a x d cs1 cs2 t1 s1 t2 s2 e1 e2 2⟩ 80 (.call Fn.rotor_section_torques ⟨[a.val, ag [i x, i d]]⟩ (hp118 cs1 t1 s1 e1 cs2 t2 s2 e2)) = (execO Tryd.prog 6 ⟨TNa, no_, off_, LT a x d cs1 cs2 t1 s1 t2 s2 e1 e2 2⟩ 80 (.call Fn.rotor_section_torques ⟨[a.val, ag [i x, i d]]⟩ (hp118 cs1 t1 s1 e1 cs2 t2 s2 e2))).fix := by kernel_rfl
theorem trun3 (a : ScA) (x d : Int) (cs1 cs2 : List Value) (t1 s1 t2 s2 : Nat) (e1 e2 : Bool) : (execO Tryd.prog 6 ⟨TNa, no_, off_, LT a x d cs1 cs2 t1 s1 t2 s2 e1 e2 3⟩ 80 (.call Fn.rotor_section_torques ⟨[a.val, ag [i x, i d]]⟩ (hp118 cs1 t1 s1 e1 cs2 t2 s2 e2))).vals = treeT a x d [cs1, cs2] 3 := by kernel_rfl
theorem tfix3 (a : ScA) (x d : Int) (cs1 cs2 : List Value) (t1 s1 t2 s2 : Nat) (e1 e2 : Bool) : execO Tryd.prog 6 ⟨TNa, no_, off_, LT a x d cs1 cs2 t1 s1 t2 s2 e1 e2 3⟩ 80 (.call Fn.rotor_section_torques ⟨[a.val, ag [i x, i d]]⟩ (hp118 cs1 t1 s1 e1 cs2 t2 s2 e2)) = (execO Tryd.prog 6 ⟨TNa, no_, off_, LT a x d cs1 cs2 t1 s1 t2 s2 e1 e2 3⟩ 80 (.call Fn.rotor_section_torques ⟨[a.val, ag [i x, i d]]⟩ (hp118 cs1 t1 s1 e1 cs2 t2 s2 e2))).fix := by kernel_rfl
theorem trun4 (a : ScA) (x d : Int) (cs1 cs2 : List Value) (t1 s1 t2 s2 : Nat) (e1 e2 : Bool) : (execO Tryd.prog 6 ⟨TNa, no_, off_, LT a x d cs1 cs2 t1 s1 t2 s2 e1 e2 4⟩ 80 (.call Fn.rotor_section_torques ⟨[a.val, ag [i x, i d]]⟩ (hp118 cs1 t1 s1 e1 cs2 t2 s2 e2))).vals = treeT a x d [cs1, cs2] 4 := by kernel_rfl
theorem tfix4 (a : ScA) (x d : Int) (cs1 cs2 : List Value) (t1 s1 t2 s2 : Nat) (e1 e2 : Bool) : execO Tryd.prog 6 ⟨TNa, no_, off_, LT a x d cs1 cs2 t1 s1 t2 s2 e1 e2 4⟩ 80 (.call Fn.rotor_section_torques ⟨[a.val, ag [i x, i d]]⟩ (hp118 cs1 t1 s1 e1 cs2 t2 s2 e2)) = (execO Tryd.prog 6 ⟨TNa, no_, off_, LT a x d cs1 cs2 t1 s1 t2 s2 e1 e2 4⟩ 80 (.call Fn.rotor_section_torques ⟨[a.val, ag [i x, i d]]⟩ (hp118 cs1 t1 s1 e1 cs2 t2 s2 e2))).fix := by kernel_rfl
theorem trun5 (a : ScA) (x d : Int) (cs1 cs2 : List Value) (t1 s1 t2 s2 : Nat) (e1 e2 : Bool) : (execO Tryd.prog 6 ⟨TNa, no_, off_, LT a x d cs1 cs2 t1 s1 t2 s2 e1 e2 5⟩ 80 (.call Fn.rotor_section_torques ⟨[a.val, ag [i x, i d]]⟩ (hp118 cs1 t1 s1 e1 cs2 t2 s2 e2))).vals = treeT a x d [cs1, cs2] 5 := by kernel_rfl
theorem tfix5 (a : ScA) (x d : Int) (cs1 cs2 : List Value) (t1 s1 t2 s2 : Nat) (e1 e2 : Bool) : execO Tryd.prog 6 ⟨TNa, no_, off_, LT a x d cs1 cs2 t1 s1 t2 s2 e1 e2 5⟩ 80 (.call Fn.rotor_section_torques ⟨[a.val, ag [i x, i d]]⟩ (hp118 cs1 t1 s1 e1 cs2 t2 s2 e2)) = (execO Tryd.prog 6 ⟨TNa, no_, off_, LT a x d cs1 cs2 t1 s1 t2 s2 e1 e2 5⟩ 80 (.call Fn.rotor_section_torques ⟨[a.val, ag [i x, i d]]⟩ (hp118 cs1 t1 s1 e1 cs2 t2 s2 e2))).fix := by kernel_rfl
end Go.Proofs.YtbocpikgochioaaDoor.Ways
namespace Go.Proofs.YtbocpikgochioaaDoor.Ways
open Go Go.Ex
def mT (a : ScA) (x d : Int) : Nat := (minI (toT a x d) (toLa a) - toX a x d + 1).toNat
def okTors (a : ScA × Int × Int) : List (List Value) → Prop
  | [cs1, cs2] => OkI cs1 a.1.n1 a.1.c1 ∧ OkI cs2 a.1.n2 a.1.c2 ∧ (1 ≤ a.1.n1 ∧ a.1.n1 ≤ 5 ∧ a.1.n1 = a.1.n2) ∧ (1 ≤ a.2.2 ∧ a.2.2 ≤ 12) ∧ denE a.1.r a.1.s a.2.2 ≠ 0 ∧ (-128 ≤ a.1.t ∧ a.1.t ≤ 128) ∧ (0 ≤ toF a.1 a.2.1 a.2.2 ∧ toF a.1 a.2.1 a.2.2 ≤ 209715200) ∧ (0 ≤ toT a.1 a.2.1 a.2.2 ∧ toT a.1 a.2.1 a.2.2 ≤ 209715200)
  | _ => False
theorem okTors_fl {a : ScA × Int × Int} {css : List (List Value)} (h : okTors a css) : fl2 css := by
  unfold okTors at h
  split at h
  · exact ⟨h.1.1, h.2.1.1⟩
  · cases h
theorem xT_eq {X : Int} (h1 : -1000 ≤ X) (h2 : X ≤ 1000000000) : ∀ j : Nat, j ≤ 10 → xT X j = X + (j : Int)
  | 0, _ => by show X = X + ((0 : Nat) : Int); omega
  | j + 1, h => by
    show wrapF .i64 (xT X j + 1) = _
    rw [xT_eq h1 h2 j (by omega), wrapF_in (by omega) (by omega)]
    omega
theorem minI_eq (a b : Int) : minI a b ≤ a ∧ minI a b ≤ b ∧ (minI a b = a ∨ minI a b = b) := by
  unfold minI
  split <;> omega
theorem maxI_eq (a b : Int) : a ≤ maxI a b ∧ b ≤ maxI a b ∧ (maxI a b = a ∨ maxI a b = b) := by
  unfold maxI
  split <;> omega
theorem mT_facts {a : ScA} {x d : Int} (hn : 1 ≤ a.n1 ∧ a.n1 ≤ 5) (ht : -128 ≤ a.t ∧ a.t ≤ 128) (hF : 0 ≤ toF a x d ∧ toF a x d ≤ 209715200) :
    mT a x d ≤ 5 ∧ (∀ j, j < mT a x d → xT (toX a x d) j ≤ minI (toT a x d) (toLa a)) ∧ ¬ xT (toX a x d) (mT a x d) ≤ minI (toT a x d) (toLa a) := by
  obtain ⟨x1, x2, x3⟩ := maxI_eq (toF a x d) a.t
  have hX : toX a x d = maxI (toF a x d) a.t := rfl
  rw [← hX] at x1 x2 x3
  have hla : toLa a = a.t + (a.n1 : Int) - 1 := by
    unfold toLa
    rw [wrapF_in (n := a.t + (a.n1 : Int)) (by omega) (by omega), wrapF_in (by omega) (by omega)]
  obtain ⟨m1, m2, m3⟩ := minI_eq (toT a x d) (toLa a)
  have hm : mT a x d = (minI (toT a x d) (toLa a) - toX a x d + 1).toNat := rfl
  have h5 : mT a x d ≤ 5 := by omega
  refine ⟨h5, fun j hj => ?_, ?_⟩
  · rw [xT_eq (by omega) (by omega) j (by omega)]; omega
  · rw [xT_eq (by omega) (by omega) _ (by omega)]; omega
theorem tors_small : ∀ a css os, okTors a css → Blks css os → ∃ H', Sound Tryd.prog (gl + css.length) (.call Fn.rotor_section_torques ⟨[a.1.val, ag [i a.2.1, i a.2.2]]⟩ (heapL (deads ++ os))) (.val (torsV a.1 css a.2.1 a.2.2 (mT a.1 a.2.1 a.2.2)) H') := by
  intro a css os h hb
  have h0 := okTors_fl h
  obtain ⟨a, x, d⟩ := a
  obtain ⟨cs1, t1, s1, e1, cs2, t2, s2, e2, rfl, rfl⟩ := fl2_blks h0 hb
  obtain ⟨g1, g2, ⟨g3, g4, g5⟩, g6, g7, g8, g9, g10⟩ := h
  obtain ⟨m1, m2, m3⟩ := mT_facts (a := a) (x := x) (d := d) ⟨g3, g4⟩ g8 g9
  show ∃ H', Sound Tryd.prog 6 (.call Fn.rotor_section_torques ⟨[a.val, ag [i x, i d]]⟩ (hp118 cs1 t1 s1 e1 cs2 t2 s2 e2)) (.val (torsV a [cs1, cs2] x d (mT a x d)) H')
  have hs : ∀ m, (treeT a x d [cs1, cs2] m).sel = some (torsV a [cs1, cs2] x d m) := by
    intro m
    unfold treeT
    rw [askB_sel (tru_iff.2 (show okInf (a, wrapF .i64 (x + 1), d) [cs1, cs2] from ⟨h0, g6, g7⟩)), askB_sel (tru_iff.2 (show okInf (a, x, d) [cs1, cs2] from ⟨h0, g6, g7⟩)), asksL_sel]
    · rfl
    · intro b hb
      obtain ⟨y, _, rfl⟩ := List.mem_map.1 hb
      exact tru_iff.2 (show okTor (a, y) [cs1, cs2] from ⟨g1, g2, g3, g5⟩)
  revert m1 m2 m3
  generalize mT a x d = m
  intro m1 m2 m3
  have hL := lsT_ (a := a) (x := x) (d := d) (cs1 := cs1) (cs2 := cs2) (t1 := t1) (s1 := s1) (t2 := t2) (s2 := s2) (e1 := e1) (e2 := e2) g1.1 g2.1 m m1 m2 m3
  have : m = 0 ∨ m = 1 ∨ m = 2 ∨ m = 3 ∨ m = 4 ∨ m = 5 := by omega
  rcases this with rfl | rfl | rfl | rfl | rfl | rfl
  · exact one_tree (C := ⟨TNa, no_, off_, LT a x d cs1 cs2 t1 s1 t2 s2 e1 e2 0⟩) (n := 80) _ tsNa hL (tfix0 ..) (trun0 ..) (hs 0)
  · exact one_tree (C := ⟨TNa, no_, off_, LT a x d cs1 cs2 t1 s1 t2 s2 e1 e2 1⟩) (n := 80) _ tsNa hL (tfix1 ..) (trun1 ..) (hs 1)
  · exact one_tree (C := ⟨TNa, no_, off_, LT a x d cs1 cs2 t1 s1 t2 s2 e1 e2 2⟩) (n := 80) _ tsNa hL (tfix2 ..) (trun2 ..) (hs 2)
  · exact one_tree (C := ⟨TNa, no_, off_, LT a x d cs1 cs2 t1 s1 t2 s2 e1 e2 3⟩) (n := 80) _ tsNa hL (tfix3 ..) (trun3 ..) (hs 3)
  · exact one_tree (C := ⟨TNa, no_, off_, LT a x d cs1 cs2 t1 s1 t2 s2 e1 e2 4⟩) (n := 80) _ tsNa hL (tfix4 ..) (trun4 ..) (hs 4)
  · exact one_tree (C := ⟨TNa, no_, off_, LT a x d cs1 cs2 t1 s1 t2 s2 e1 e2 5⟩) (n := 80) _ tsNa hL (tfix5 ..) (trun5 ..) (hs 5)
noncomputable def TNd : Tb := ext TNa Fn.rotor_section_torques (rdE rdSI okTors (fun a css => torsV a.1 css a.2.1 a.2.2 (mT a.1 a.2.1 a.2.2)) [] (heapL deads))
theorem tsNd {G : Nat} : TSound Tryd.prog G TNd :=
  tsNa.ext (rd_ok (fun a => [a.1.val, ag [i a.2.1, i a.2.2]]) deads_len deads_flat deads_mem rdSI_ok (fun _ _ h => fl2_flat (okTors_fl h)) (fun _ _ _ => rfl) tors_small)
end Go.Proofs.YtbocpikgochioaaDoor.Ways
namespace Go.Proofs.YtbocpikgochioaaDoor.Ways
open Go Go.Ex
noncomputable def CNd : Cfg := ⟨TNd, no_, off_, noL⟩
def thsV (a : ScA) (x d : Int) : Value := ag [i (thrE a.r x d), i (thrE a.r (wrapF .i64 (x + 1)) d)]
theorem ths_small : ∀ a css os, okThr a css → Blks css os → ∃ H', Sound Tryd.prog (gl + css.length) (.call Fn.rotor_section_thrusts ⟨[a.1.val, ag [i a.2.1, i a.2.2]]⟩ (heapL (deads ++ os))) (.val (thsV a.1 a.2.1 a.2.2) H') := by
  intro a css os h hb
  obtain ⟨⟨r, c, t, p, w, s, n1, c1, n2, c2⟩, x, d⟩ := a
  obtain ⟨h0, h1⟩ := h
  obtain ⟨cs1, t1, s1, e1, cs2, t2, s2, e2, rfl, rfl⟩ := fl2_blks h0 hb
  refine one_tree (C := CNd) (n := 40) (askB (tru (okThr (⟨r, c, t, p, w, s, n1, c1, n2, c2⟩, x, d) [cs1, cs2])) (askB (tru (okThr (⟨r, c, t, p, w, s, n1, c1, n2, c2⟩, wrapF .i64 (x + 1), d) [cs1, cs2])) (.leaf (thsV ⟨r, c, t, p, w, s, n1, c1, n2, c2⟩ x d)))) tsNd .none (by kernel_rfl) (by kernel_rfl) ?_
  rw [askB_sel (tru_iff.2 ⟨h0, h1⟩), askB_sel (tru_iff.2 ⟨h0, h1⟩)]; rfl
noncomputable def TNe : Tb := ext TNd Fn.rotor_section_thrusts (rdE rdSI okThr (fun a _ => thsV a.1 a.2.1 a.2.2) [] (heapL deads))
theorem tsNe {G : Nat} : TSound Tryd.prog G TNe :=
  tsNd.ext (rd_ok (fun a => [a.1.val, ag [i a.2.1, i a.2.2]]) deads_len deads_flat deads_mem rdSI_ok (fun _ _ h => fl2_flat h.1) (fun _ _ _ => rfl) ths_small)
end Go.Proofs.YtbocpikgochioaaDoor.Ways
namespace Go.Proofs.YtbocpikgochioaaDoor.Ways
open Go Go.Ex
noncomputable def spF : Nat → Nat → Split := at_ [(Fn.rotor_intervals, 25), (Fn.rotor_intervals, 39)] .bool no_
noncomputable def CF2 : Cfg := ⟨orT TNe zT2, spF, off_, noL⟩
theorem tsF2 {G : Nat} : TSound Tryd.prog G CF2.T := orT_ok tsNe zT2_ok
/-- the bracket of a ring, as it is handed on -/
def bAt (A : ScA) (css : List (List Value)) (D : Int) : Int := selB (hasB A css) (brA A css (D - 1).toNat) 0
def bDp (A : ScA) (css : List (List Value)) (D : Int) : Int := selB (hasB A css) D 0
def errV (e : Int) : Value := tp [ag [i 0, i 0], i e]
/-- ring after ring: 'ok' asks, 'lo', 'hi' the interval -/
noncomputable def ringsF (sc : Nat → ScA) (css : List (List Value)) (D : Int) (ok : ScA → Bool) (lo hi : ScA → Int) : Nat → Nat → Int → Int → VT
  | 0, _, a, b => .leaf (tp [ag [i a, i b], i 0])
  | m + 1, j, a, b => askB (tru (okBr (sc j, D) css)) (.br (!hasB (sc j) css) (.leaf (errV 7)) (askB (ok (sc j)) (ringsF sc css D ok lo hi m (j + 1) (wrapF .i64 (a + lo (sc j))) (wrapF .i64 (b + hi (sc j))))))
noncomputable def allF (okb : Bool) (bE fE D : Int) (t : VT) : VT := askB okb (askFst [bE, fE, rangeE D 1 12] fun e => .br (!eqF e 0) (.leaf (errV e)) t)
section
variable (cs1 cs2 : List Value) (ρ : Nat → Int) (t1 s1 t2 s2 t3 s3 : Nat) (e1 e2 e3 : Bool) (n1 c1 n2 c2 : Nat) (w s q D : Int)
noncomputable def thrT (n : Nat) : VT := allF (tru (okB ⟨n1, c1, n2, c2, n, n, false⟩ [cs1, cs2, ringC ρ n])) (bladeE cs1 n1 cs2 n2 ρ n) (flowE w s q) D
  (ringsF (scA ρ w s q n1 c1 n2 c2) [cs1, cs2] D (fun A => tru (okThr (A, bAt A [cs1, cs2] D, bDp A [cs1, cs2] D) [cs1, cs2])) (fun A => thrE A.r (bAt A [cs1, cs2] D) (bDp A [cs1, cs2] D)) (fun A => thrE A.r (wrapF .i64 (bAt A [cs1, cs2] D + 1)) (bDp A [cs1, cs2] D)) n 0 0 0)
def tlo (A : ScA) (css : List (List Value)) (D : Int) : Int := minL ((ysT A (bAt A css D) (bDp A css D) (mT A (bAt A css D) (bDp A css D))).map (torV A css))
def thi (A : ScA) (css : List (List Value)) (D : Int) : Int := maxL ((ysT A (bAt A css D) (bDp A css D) (mT A (bAt A css D) (bDp A css D))).map (torV A css))
noncomputable def torT (n : Nat) : VT := allF (tru (okB ⟨n1, c1, n2, c2, n, n, false⟩ [cs1, cs2, ringC ρ n])) (bladeE cs1 n1 cs2 n2 ρ n) (flowE w s q) D
  (ringsF (scA ρ w s q n1 c1 n2 c2) [cs1, cs2] D (fun A => tru (okTors (A, bAt A [cs1, cs2] D, bDp A [cs1, cs2] D) [cs1, cs2])) (fun A => tlo A [cs1, cs2] D) (fun A => thi A [cs1, cs2] D) n 0 0 0)
theorem thrun1 : (execO Tryd.prog 7 CF2 80 (.call Fn.rotor_Thrust ⟨[blV n1 c1 n2 c2 (sl 6 0 1 1), flV w s q, i D]⟩ (hpB cs1 t1 s1 e1 cs2 t2 s2 e2 (ringC ρ 1) t3 s3 e3))).vals = thrT cs1 cs2 ρ n1 c1 n2 c2 w s q D 1 := by kernel_rfl
theorem thfix1 : execO Tryd.prog 7 CF2 80 (.call Fn.rotor_Thrust ⟨[blV n1 c1 n2 c2 (sl 6 0 1 1), flV w s q, i D]⟩ (hpB cs1 t1 s1 e1 cs2 t2 s2 e2 (ringC ρ 1) t3 s3 e3)) = (execO Tryd.prog 7 CF2 80 (.call Fn.rotor_Thrust ⟨[blV n1 c1 n2 c2 (sl 6 0 1 1), flV w s q, i D]⟩ (hpB cs1 t1 s1 e1 cs2 t2 s2 e2 (ringC ρ 1) t3 s3 e3))).fix := by kernel_rfl
theorem torun1 : (execO Tryd.prog 7 CF2 80 (.call Fn.rotor_Torque ⟨[blV n1 c1 n2 c2 (sl 6 0 1 1), flV w s q, i D]⟩ (hpB cs1 t1 s1 e1 cs2 t2 s2 e2 (ringC ρ 1) t3 s3 e3))).vals = torT cs1 cs2 ρ n1 c1 n2 c2 w s q D 1 := by kernel_rfl
theorem tofix1 : execO Tryd.prog 7 CF2 80 (.call Fn.rotor_Torque ⟨[blV n1 c1 n2 c2 (sl 6 0 1 1), flV w s q, i D]⟩ (hpB cs1 t1 s1 e1 cs2 t2 s2 e2 (ringC ρ 1) t3 s3 e3)) = (execO Tryd.prog 7 CF2 80 (.call Fn.rotor_Torque ⟨[blV n1 c1 n2 c2 (sl 6 0 1 1), flV w s q, i D]⟩ (hpB cs1 t1 s1 e1 cs2 t2 s2 e2 (ringC ρ 1) t3 s3 e3))).fix := by kernel_rfl
theorem thrun2 : (execO Tryd.prog 7 CF2 80 (.call Fn.rotor_Thrust ⟨[blV n1 c1 n2 c2 (sl 6 0 2 2), flV w s q, i D]⟩ (hpB cs1 t1 s1 e1 cs2 t2 s2 e2 (ringC ρ 2) t3 s3 e3))).vals = thrT cs1 cs2 ρ n1 c1 n2 c2 w s q D 2 := by kernel_rfl
theorem thfix2 : execO Tryd.prog 7 CF2 80 (.call Fn.rotor_Thrust ⟨[blV n1 c1 n2 c2 (sl 6 0 2 2), flV w s q, i D]⟩ (hpB cs1 t1 s1 e1 cs2 t2 s2 e2 (ringC ρ 2) t3 s3 e3)) = (execO Tryd.prog 7 CF2 80 (.call Fn.rotor_Thrust ⟨[blV n1 c1 n2 c2 (sl 6 0 2 2), flV w s q, i D]⟩ (hpB cs1 t1 s1 e1 cs2 t2 s2 e2 (ringC ρ 2) t3 s3 e3))).fix := by kernel_rfl
theorem torun2 : (execO Tryd.prog 7 CF2 80 (.call Fn.rotor_Torque ⟨[blV n1 c1 n2 c2 (sl 6 0 2 2), flV w s q, i D]⟩ (hpB cs1 t1 s1 e1 cs2 t2 s2 e2 (ringC ρ 2) t3 s3 e3))).vals = torT cs1 cs2 ρ n1 c1 n2 c2 w s q D 2 := by kernel_rfl
theorem tofix2 : execO Tryd.prog 7 CF2 80 (.call Fn.rotor_Torque ⟨[blV n1 c1 n2 c2 (sl 6 0 2 2), flV w s q, i D]⟩ (hpB cs1 t1 s1 e1 cs2 t2 s2 e2 (ringC ρ 2) t3 s3 e3)) = (execO Tryd.prog 7 CF2 80 (.call Fn.rotor_Torque ⟨[blV n1 c1 n2 c2 (sl 6 0 2 2), flV w s q, i D]⟩ (hpB cs1 t1 s1 e1 cs2 t2 s2 e2 (ringC ρ 2) t3 s3 e3))).fix := by kernel_rfl
theorem thrun3 : (execO Tryd.prog 7 CF2 80 (.call Fn.rotor_Thrust ⟨[blV n1 c1 n2 c2 (sl 6 0 3 3), flV w s q, i D]⟩ (hpB cs1 t1 s1 e1 cs2 t2 s2 e2 (ringC ρ 3) t3 s3 e3))).vals = thrT cs1 cs2 ρ n1 c1 n2 c2 w s q D 3 := by kernel_rfl
theorem thfix3 : execO Tryd.prog 7 CF2 80 (.call Fn.rotor_Thrust ⟨[blV n1 c1 n2 c2 (sl 6 0 3 3), flV w s q, i D]⟩ (hpB cs1 t1 s1 e1 cs2 t2 s2 e2 (ringC ρ 3) t3 s3 e3)) = (execO Tryd.prog 7 CF2 80 (.call Fn.rotor_Thrust ⟨[blV n1 c1 n2 c2 (sl 6 0 3 3), flV w s q, i D]⟩ (hpB cs1 t1 s1 e1 cs2 t2 s2 e2 (ringC ρ 3) t3 s3 e3))).fix := by kernel_rfl
theorem torun3 : (execO Tryd.prog 7 CF2 80 (.call Fn.rotor_Torque ⟨[blV n1 c1 n2 c2 (sl 6 0 3 3), flV w s q, i D]⟩ (hpB cs1 t1 s1 e1 cs2 t2 s2 e2 (ringC ρ 3) t3 s3 e3))).vals = torT cs1 cs2 ρ n1 c1 n2 c2 w s q D 3 := by kernel_rfl
theorem tofix3 : execO Tryd.prog 7 CF2 80 (.call Fn.rotor_Torque ⟨[blV n1 c1 n2 c2 (sl 6 0 3 3), flV w s q, i D]⟩ (hpB cs1 t1 s1 e1 cs2 t2 s2 e2 (ringC ρ 3) t3 s3 e3)) = (execO Tryd.prog 7 CF2 80 (.call Fn.rotor_Torque ⟨[blV n1 c1 n2 c2 (sl 6 0 3 3), flV w s q, i D]⟩ (hpB cs1 t1 s1 e1 cs2 t2 s2 e2 (ringC ρ 3) t3 s3 e3))).fix := by kernel_rfl
end
end Go.Proofs.YtbocpikgochioaaDoor.Ways
namespace Go.Proofs.YtbocpikgochioaaDoor.Ways
open Go Go.Ex
/-! ### Thrust and Torque of valid blades -/
def hasE (sc : Nat → ScA) (css : List (List Value)) : Nat → Nat → Int
  | 0, _ => 0
  | m + 1, j => cond (hasB (sc j) css) (hasE sc css m (j + 1)) 7
def sumF (lo : ScA → Int) (sc : Nat → ScA) : Nat → Nat → Int → Int
  | 0, _, a => a
  | m + 1, j, a => sumF lo sc m (j + 1) (wrapF .i64 (a + lo (sc j)))
def frcV (E a b : Int) : Value := tp [ag [i (okE E a), i (okE E b)], i E]
theorem ringsF_sel {sc : Nat → ScA} {css : List (List Value)} {D : Int} {ok : ScA → Bool} {lo hi : ScA → Int} : ∀ (m j : Nat) (a b : Int), (∀ t, j ≤ t → t < j + m → okBr (sc t, D) css) → (∀ t, j ≤ t → t < j + m → hasB (sc t) css = true → ok (sc t) = true) →
    (ringsF sc css D ok lo hi m j a b).sel = some (frcV (hasE sc css m j) (sumF lo sc m j a) (sumF hi sc m j b))
  | 0, _, _, _, _, _ => rfl
  | m + 1, j, a, b, h1, h2 => by
    unfold ringsF
    rw [askB_sel (tru_iff.2 (h1 j (Nat.le_refl _) (by omega)))]
    unfold hasE sumF
    cases hb : hasB (sc j) css with
    | false => rfl
    | true =>
      show (askB (ok (sc j)) _).sel = _
      rw [askB_sel (h2 j (Nat.le_refl _) (by omega) hb), ringsF_sel m (j + 1) _ _ (fun t g1 g2 => h1 t (by omega) (by omega)) (fun t g1 g2 => h2 t (by omega) (by omega))]
      rfl
theorem allF_sel {okb : Bool} {bE fE D : Int} {t : VT} (h : okb = true) (hb : bE = 0) (hf : fE = 0) (hD : 1 ≤ D ∧ D ≤ 12) : (allF okb bE fE D t).sel = t.sel := by
  unfold allF
  rw [askB_sel h, askFst_sel (by simp)]
  have : firstL [bE, fE, rangeE D 1 12] = 0 := by
    rw [hb, hf]
    show firstE 0 (firstE 0 (firstE (rangeE D 1 12) 0)) = 0
    rw [fe0, fe0, firstE_zero]
    exact range0 hD.1 hD.2
  rw [this]
  rfl
section
variable {cs1 cs2 : List Value} {n1 n2 n j : Nat} {ρ : Nat → Int} {r c t p w s q D : Int}
theorem rv_of (hb : bladeE cs1 n1 cs2 n2 ρ n = 0) (hf : flowE w s q = 0) (hj : j < n) : RV cs1 n1 (ρ (4 * j)) (ρ (4 * j + 1)) (ρ (4 * j + 2)) (ρ (4 * j + 3)) w s q := by
  obtain ⟨hp, _, _, hr⟩ := blade_z hb
  obtain ⟨hrj, _⟩ := hr j hj
  obtain ⟨g1, g2, g3, g4⟩ := ring4_z hrj
  obtain ⟨f1, f2, f3⟩ := flow_z hf
  obtain ⟨p1, p2, _, p3, _⟩ := pol_z hp
  exact ⟨g1, g2, g3, g4, f1, f2, f3, ⟨p1, p2⟩, p3⟩
theorem sc_AA (j : Nat) : scA ρ w s q n1 n1 n2 n2 j = AA n1 n2 (ρ (4 * j)) (ρ (4 * j + 1)) (ρ (4 * j + 2)) (ρ (4 * j + 3)) w s q := rfl
theorem okBr_of (h : RV cs1 n1 r c t p w s q) (o1 : OkI cs1 n1 n1) (o2 : OkI cs2 n2 n2) (hD : 1 ≤ D ∧ D ≤ 12) : okBr (AA n1 n2 r c t p w s q, D) [cs1, cs2] :=
  ⟨o1, o2.1, h.n.1, h.r, h.s, hD⟩
/-- the bracket of a ring that has one -/
theorem br_at (h : RV cs1 n1 r c t p w s q) (hb : hasB (AA n1 n2 r c t p w s q) [cs1, cs2] = true) (hD : 1 ≤ D ∧ D ≤ 12) :
    bAt (AA n1 n2 r c t p w s q) [cs1, cs2] D = brA (AA n1 n2 r c t p w s q) [cs1, cs2] (D - 1).toNat ∧ bDp (AA n1 n2 r c t p w s q) [cs1, cs2] D = D ∧
    (0 ≤ bAt (AA n1 n2 r c t p w s q) [cs1, cs2] D ∧ bAt (AA n1 n2 r c t p w s q) [cs1, cs2] D + 1 ≤ powE (D - 1)) ∧ balT cs1 n1 r c t p w s q (bAt (AA n1 n2 r c t p w s q) [cs1, cs2] D) D ≤ 0 ∧ 0 < balT cs1 n1 r c t p w s q (bAt (AA n1 n2 r c t p w s q) [cs1, cs2] D + 1) D := by
  have e1 : bAt (AA n1 n2 r c t p w s q) [cs1, cs2] D = brA (AA n1 n2 r c t p w s q) [cs1, cs2] (D - 1).toNat := by unfold bAt; rw [hb]; rfl
  have e2 : bDp (AA n1 n2 r c t p w s q) [cs1, cs2] D = D := by unfold bDp; rw [hb]; rfl
  have hb' := hb
  rw [hasB_eq h, decide_eq_true_eq] at hb'
  obtain ⟨g1, g2, g3, g4⟩ := br_inv h (c1 := n1) (n2 := n2) (c2 := n2) (cs2 := cs2) hb' (D - 1).toNat (by omega)
  rw [show (((D - 1).toNat : Nat) : Int) = D - 1 from by omega] at g2 g3 g4
  rw [show D - 1 + 1 = D from by omega] at g3 g4
  rw [e1]
  exact ⟨rfl, e2, ⟨g1, g2⟩, g3, g4⟩
theorem okTors_of (h : RV cs1 n1 r c t p w s q) (o1 : OkI cs1 n1 n1) (o2 : OkI cs2 n2 n2) (h5 : n1 ≤ 5) (hnn : n1 = n2) (hb : hasB (AA n1 n2 r c t p w s q) [cs1, cs2] = true) (hD : 1 ≤ D ∧ D ≤ 12) :
    okTors (AA n1 n2 r c t p w s q, bAt (AA n1 n2 r c t p w s q) [cs1, cs2] D, bDp (AA n1 n2 r c t p w s q) [cs1, cs2] D) [cs1, cs2] := by
  obtain ⟨e1, e2, ⟨g1, g2⟩, _⟩ := br_at h hb hD
  rw [e2]
  have hpw := pow_bd hD
  have hp2 := pow_two hD
  generalize bAt (AA n1 n2 r c t p w s q) [cs1, cs2] D = x at *
  have hw : wrapF .i64 (x + 1) = x + 1 := wrapF_in (by omega) (by omega)
  obtain ⟨_, b1, b2⟩ := inf_bd (a := x) h.r h.w h.s hD ⟨g1, by omega⟩
  obtain ⟨_, b3, b4⟩ := inf_bd (a := x + 1) h.r h.w h.s hD ⟨by omega, by omega⟩
  have ht := h.t
  have hq := h.q
  have ew : wrapF .i64 (t + q) = t + q := wrapF_in (by omega) (by omega)
  refine ⟨o1, o2, ⟨h.n.1, h5, hnn⟩, hD, den_ne h.r h.s hD, ?_, ?_, ?_⟩
  · show -128 ≤ wrapF .i64 (t + q) ∧ wrapF .i64 (t + q) ≤ 128
    rw [ew]; omega
  · show 0 ≤ infE r w s (wrapF .i64 (x + 1)) D ∧ infE r w s (wrapF .i64 (x + 1)) D ≤ 209715200
    rw [hw]; exact ⟨b3, b4⟩
  · exact ⟨b1, b2⟩
end
/-- the arguments of Thrust and Torque -/
def rdAF : List Value → Option (List Nat × ArA)
  | [v, .agg ⟨[.int .i64 w, .int .i64 s, .int .i64 q]⟩, .int .i64 x] => match rdB v with
    | some y => some (y.1, ⟨y.2, w, s, q, 0, x, 0⟩)
    | none => none
  | _ => none
def ArA.valsF (a : ArA) : List Value := [a.b.val, flV a.w a.s a.q, i a.x]
theorem rdAF_ok : ∀ args bs a, rdAF args = some (bs, a) → a.valsF.all (renOk (List.range gl ++ bs) 8) = true ∧ args = a.valsF.map (ren (List.range gl ++ bs) 8) := by
  intro args bs a h
  unfold rdAF at h
  split at h
  · split at h
    · rename_i x hx
      cases h
      obtain ⟨h1, h2⟩ := rdB_ok hx
      refine ⟨?_, by rw [h2]; rfl⟩
      show (renOk _ 8 x.2.val && _) = true
      rw [h1]; rfl
    · cases h
  · cases h
def okFc (a : ArA) (css : List (List Value)) : Prop := okB3 a.b css ∧ (a.b.c1 = a.b.n1 ∧ a.b.c2 = a.b.n2) ∧ a.b.n1 ≤ 5 ∧ a.b.n ≤ 3 ∧ errB a.b css = 0 ∧ flowE a.w a.s a.q = 0 ∧ 1 ≤ a.x ∧ a.x ≤ 12
def scF (a : ArA) (css : List (List Value)) : Nat → ScA := scA (rhoC css) a.w a.s a.q a.b.n1 a.b.c1 a.b.n2 a.b.c2
def hE_ (a : ArA) (css : List (List Value)) : Int := hasE (scF a css) (cs12 css) a.b.n 0
def tL (css : List (List Value)) (D : Int) (A : ScA) : Int := thrE A.r (bAt A css D) (bDp A css D)
def tH (css : List (List Value)) (D : Int) (A : ScA) : Int := thrE A.r (wrapF .i64 (bAt A css D + 1)) (bDp A css D)
def mL (css : List (List Value)) (D : Int) (A : ScA) : Int := tlo A css D
def mH (css : List (List Value)) (D : Int) (A : ScA) : Int := thi A css D
def thL (a : ArA) (css : List (List Value)) : Int := sumF (tL (cs12 css) a.x) (scF a css) a.b.n 0 0
def thH (a : ArA) (css : List (List Value)) : Int := sumF (tH (cs12 css) a.x) (scF a css) a.b.n 0 0
def toL (a : ArA) (css : List (List Value)) : Int := sumF (mL (cs12 css) a.x) (scF a css) a.b.n 0 0
def toH (a : ArA) (css : List (List Value)) : Int := sumF (mH (cs12 css) a.x) (scF a css) a.b.n 0 0
section
variable {cs1 cs2 : List Value} {n1 n2 n : Nat} {ρ : Nat → Int} {w s q D : Int}
theorem thrT_sel (o1 : OkI cs1 n1 n1) (o2 : OkI cs2 n2 n2) (h5 : five n) (hb : bladeE cs1 n1 cs2 n2 ρ n = 0) (hf : flowE w s q = 0) (hD : 1 ≤ D ∧ D ≤ 12) :
    (thrT cs1 cs2 ρ n1 n1 n2 n2 w s q D n).sel = some (frcV (hasE (scA ρ w s q n1 n1 n2 n2) [cs1, cs2] n 0) (sumF (tL [cs1, cs2] D) (scA ρ w s q n1 n1 n2 n2) n 0 0) (sumF (tH [cs1, cs2] D) (scA ρ w s q n1 n1 n2 n2) n 0 0)) := by
  unfold thrT
  rw [allF_sel (tru_iff.2 ⟨rfl, ⟨o1, o2⟩, h5, rfl, ringC_self ρ n⟩) hb hf hD]
  refine ringsF_sel n 0 0 0 (fun t _ ht => okBr_of (rv_of hb hf (j := t) (by omega)) o1 o2 hD) fun t _ ht hh => tru_iff.2 ?_
  obtain ⟨_, e2, _⟩ := br_at (rv_of hb hf (j := t) (by omega)) hh hD
  refine ⟨⟨o1.1, o2.1⟩, ?_⟩
  show 1 ≤ bDp _ _ D ∧ bDp _ _ D ≤ 12
  rw [sc_AA, e2]; exact hD
theorem torT_sel (o1 : OkI cs1 n1 n1) (o2 : OkI cs2 n2 n2) (h5 : five n) (hn5 : n1 ≤ 5) (hb : bladeE cs1 n1 cs2 n2 ρ n = 0) (hf : flowE w s q = 0) (hD : 1 ≤ D ∧ D ≤ 12) :
    (torT cs1 cs2 ρ n1 n1 n2 n2 w s q D n).sel = some (frcV (hasE (scA ρ w s q n1 n1 n2 n2) [cs1, cs2] n 0) (sumF (mL [cs1, cs2] D) (scA ρ w s q n1 n1 n2 n2) n 0 0) (sumF (mH [cs1, cs2] D) (scA ρ w s q n1 n1 n2 n2) n 0 0)) := by
  unfold torT
  rw [allF_sel (tru_iff.2 ⟨rfl, ⟨o1, o2⟩, h5, rfl, ringC_self ρ n⟩) hb hf hD]
  obtain ⟨hp, _⟩ := blade_z hb
  obtain ⟨_, _, hnn, _⟩ := pol_z hp
  exact ringsF_sel n 0 0 0 (fun t _ ht => okBr_of (rv_of hb hf (j := t) (by omega)) o1 o2 hD) fun t _ ht hh => tru_iff.2 (okTors_of (rv_of hb hf (j := t) (by omega)) o1 o2 hn5 hnn hh hD)
end
theorem f25_small' : ∀ a css os, okFc a css → Blks css os → ∃ H', Sound Tryd.prog (gl + css.length) (.call Fn.rotor_Thrust ⟨a.valsF⟩ (heapL (deads ++ os))) (.val (frcV (hE_ a css) (thL a css) (thH a css)) H') := by
  intro a css os h hb
  obtain ⟨⟨n1, c1, n2, c2, n, c, nl⟩, w, s, q, ring, D, d⟩ := a
  obtain ⟨h, ⟨g1, g2⟩, g3, g4, g5, g6, g7⟩ := h
  dsimp only at g1 g2 g3 g4 g6 g7
  unfold okB3 at h
  split at h
  case h_2 => cases h
  rename_i cs1 cs2 cs3
  dsimp only at h
  obtain ⟨rfl, ⟨h1, h2⟩, h5, rfl, h3⟩ := h
  subst g1
  subst g2
  obtain ⟨t1, s1, e1, t2, s2, e2, t3, s3, e3, rfl⟩ := blks3 hb
  have g5' : bladeE cs1 c1 cs2 c2 (rhoE cs3) c = 0 := g5
  have hT := thrT_sel (D := D) h1 h2 h5 g5' g6 g7
  have hn := (blade_z g5').2.1
  have : c = 1 ∨ c = 2 ∨ c = 3 := by omega
  rcases this with rfl | rfl | rfl
  · have := one_tree (C := CF2) (n := 80) _ tsF2 .none (thfix1 cs1 cs2 (rhoE cs3) t1 s1 t2 s2 t3 s3 e1 e2 e3 c1 c1 c2 c2 w s q D) (thrun1 cs1 cs2 (rhoE cs3) t1 s1 t2 s2 t3 s3 e1 e2 e3 c1 c1 c2 c2 w s q D) hT
    rw [← h3] at this; exact this
  · have := one_tree (C := CF2) (n := 80) _ tsF2 .none (thfix2 cs1 cs2 (rhoE cs3) t1 s1 t2 s2 t3 s3 e1 e2 e3 c1 c1 c2 c2 w s q D) (thrun2 cs1 cs2 (rhoE cs3) t1 s1 t2 s2 t3 s3 e1 e2 e3 c1 c1 c2 c2 w s q D) hT
    rw [← h3] at this; exact this
  · have := one_tree (C := CF2) (n := 80) _ tsF2 .none (thfix3 cs1 cs2 (rhoE cs3) t1 s1 t2 s2 t3 s3 e1 e2 e3 c1 c1 c2 c2 w s q D) (thrun3 cs1 cs2 (rhoE cs3) t1 s1 t2 s2 t3 s3 e1 e2 e3 c1 c1 c2 c2 w s q D) hT
    rw [← h3] at this; exact this
theorem f26_small' : ∀ a css os, okFc a css → Blks css os → ∃ H', Sound Tryd.prog (gl + css.length) (.call Fn.rotor_Torque ⟨a.valsF⟩ (heapL (deads ++ os))) (.val (frcV (hE_ a css) (toL a css) (toH a css)) H') := by
  intro a css os h hb
  obtain ⟨⟨n1, c1, n2, c2, n, c, nl⟩, w, s, q, ring, D, d⟩ := a
  obtain ⟨h, ⟨g1, g2⟩, g3, g4, g5, g6, g7⟩ := h
  dsimp only at g1 g2 g3 g4 g6 g7
  unfold okB3 at h
  split at h
  case h_2 => cases h
  rename_i cs1 cs2 cs3
  dsimp only at h
  obtain ⟨rfl, ⟨h1, h2⟩, h5, rfl, h3⟩ := h
  subst g1
  subst g2
  obtain ⟨t1, s1, e1, t2, s2, e2, t3, s3, e3, rfl⟩ := blks3 hb
  have g5' : bladeE cs1 c1 cs2 c2 (rhoE cs3) c = 0 := g5
  have hT := torT_sel (D := D) h1 h2 h5 g3 g5' g6 g7
  have hn := (blade_z g5').2.1
  have : c = 1 ∨ c = 2 ∨ c = 3 := by omega
  rcases this with rfl | rfl | rfl
  · have := one_tree (C := CF2) (n := 80) _ tsF2 .none (tofix1 cs1 cs2 (rhoE cs3) t1 s1 t2 s2 t3 s3 e1 e2 e3 c1 c1 c2 c2 w s q D) (torun1 cs1 cs2 (rhoE cs3) t1 s1 t2 s2 t3 s3 e1 e2 e3 c1 c1 c2 c2 w s q D) hT
    rw [← h3] at this; exact this
  · have := one_tree (C := CF2) (n := 80) _ tsF2 .none (tofix2 cs1 cs2 (rhoE cs3) t1 s1 t2 s2 t3 s3 e1 e2 e3 c1 c1 c2 c2 w s q D) (torun2 cs1 cs2 (rhoE cs3) t1 s1 t2 s2 t3 s3 e1 e2 e3 c1 c1 c2 c2 w s q D) hT
    rw [← h3] at this; exact this
  · have := one_tree (C := CF2) (n := 80) _ tsF2 .none (tofix3 cs1 cs2 (rhoE cs3) t1 s1 t2 s2 t3 s3 e1 e2 e3 c1 c1 c2 c2 w s q D) (torun3 cs1 cs2 (rhoE cs3) t1 s1 t2 s2 t3 s3 e1 e2 e3 c1 c1 c2 c2 w s q D) hT
    rw [← h3] at this; exact this
theorem okFc_flat : ∀ a css, okFc a css → ∀ cs ∈ css, cs.all Ex.flat = true := fun a css h => okB_flat a.b css (okB3_B a.b css h.1)
noncomputable def TG1 : Tb := ext (ext TNe Fn.rotor_Thrust (rdE rdAF okFc (fun a css => frcV (hE_ a css) (thL a css) (thH a css)) [] (heapL deads))) Fn.rotor_Torque (rdE rdAF okFc (fun a css => frcV (hE_ a css) (toL a css) (toH a css)) [] (heapL deads))
theorem tsG1 {G : Nat} : TSound Tryd.prog G TG1 :=
  (tsNe.ext (rd_ok ArA.valsF deads_len deads_flat deads_mem rdAF_ok okFc_flat (fun _ _ _ => rfl) f25_small')).ext
    (rd_ok ArA.valsF deads_len deads_flat deads_mem rdAF_ok okFc_flat (fun _ _ _ => rfl) f26_small')
end Go.Proofs.YtbocpikgochioaaDoor.Ways
namespace Go.Proofs.YtbocpikgochioaaDoor.Fn
def law03_RotorNested : Nat := 5
end Go.Proofs.YtbocpikgochioaaDoor.Fn
namespace Go.Proofs.YtbocpikgochioaaDoor.Ways
open Go Go.Ex
noncomputable def CN1 : Cfg := ⟨TG1, no_, off_, noL⟩
theorem sfN1 : SelfSound Tryd.prog 7 (selfA (qS (tabW CN1))) := qS_selfSound (tabW_sound tsG1)
noncomputable def baseN (n1 n2 k : Nat) (w s q : Int) (cs1 : List Value) (t1 s1 : Nat) (cs2 : List Value) (t2 s2 : Nat) (cs3 : List Value) (t3 s3 : Nat) : List (CO × Bool) :=
  [(.cells powers 149 1 true, true), (.cells pow10 166 1 true, true), (.cells tab32 173 1 true, true), (.cells tab64 174 1 true, true), (.cells cs1 t1 s1 false, true), (.cells cs2 t2 s2 false, true), (.cells cs3 t3 s3 false, true),
    (.cells [sl 4 0 n1 n1, sl 5 0 n2 n2, sl 6 0 (k + 1) (k + 1)] 27 1 true, false), (.cells [i w, i s, i q] 29 1 true, false)]
def AN (n1 n2 k : Nat) (w s q D : Int) : ArA := AF n1 n2 k w s q 0 D
def hNE (cs1 cs2 cs3 : List Value) (n1 n2 k : Nat) (w s q D : Int) : Int := hE_ (AN n1 n2 k w s q D) (cpS cs1 cs2 cs3 (k + 1))
def tLoE (cs1 cs2 cs3 : List Value) (n1 n2 k : Nat) (w s q D : Int) : Int := okE (hNE cs1 cs2 cs3 n1 n2 k w s q D) (thL (AN n1 n2 k w s q D) (cpS cs1 cs2 cs3 (k + 1)))
def tHiE (cs1 cs2 cs3 : List Value) (n1 n2 k : Nat) (w s q D : Int) : Int := okE (hNE cs1 cs2 cs3 n1 n2 k w s q D) (thH (AN n1 n2 k w s q D) (cpS cs1 cs2 cs3 (k + 1)))
def mLoE (cs1 cs2 cs3 : List Value) (n1 n2 k : Nat) (w s q D : Int) : Int := okE (hNE cs1 cs2 cs3 n1 n2 k w s q D) (toL (AN n1 n2 k w s q D) (cpS cs1 cs2 cs3 (k + 1)))
def mHiE (cs1 cs2 cs3 : List Value) (n1 n2 k : Nat) (w s q D : Int) : Int := okE (hNE cs1 cs2 cs3 n1 n2 k w s q D) (toH (AN n1 n2 k w s q D) (cpS cs1 cs2 cs3 (k + 1)))
def frV (x y e : Int) : Value := tp [ag [i x, i y], i e]
end Go.Proofs.YtbocpikgochioaaDoor.Ways
