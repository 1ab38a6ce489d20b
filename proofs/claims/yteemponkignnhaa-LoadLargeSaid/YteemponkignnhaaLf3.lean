import Derived.Test.YteemponkignnhaaLf2
import Derived.Test.YteemponkignnhaaLf1
set_option maxRecDepth 10000
noncomputable section
namespace Go.Proofs.Yteemponkignnhaa.Ways
open Go Go.Ex Go.RowKit Go.Turn
noncomputable def B34 : Code := bodyL Try.f36 3
def sp34_ : Nat → Nat → Split := at_ [(36, 15)] .bool no_
inductive JS where
  | i (j : Int) (l : Nat) (out : List Value)
  | m (j : Int) (l : Nat) (out : List Value)
def GdJ : JS → Prop
  | .i _ _ out => out.all Ex.flat = true
  | .m _ _ out => out.all Ex.flat = true
section
variable (ds : List Value) (n : Nat) (d : Int) (t2 s2 : Nat) (e2 : Bool)
def hnn : JS → List (CO × Bool)
  | .i _ _ out => [(.dead, false), (.dead, false), (.cells ds t2 s2 e2, true), (.dead, false), (.cells out 70 2 false, true)]
  | .m _ _ out => [(.dead, false), (.dead, false), (.cells ds t2 s2 e2, true), (.dead, false), (.dead, false), (.cells out 70 2 false, true)]
def tdnn (q : JS) : Go.Ex.Told := ⟨match q with
  | .i j l _ => [(1, sl 2 0 n n), (2, i d), (7, sl 4 0 l l), (8, i j)]
  | .m j l _ => [(1, sl 2 0 n n), (2, i d), (7, sl 5 0 l l), (8, i j)], hnn ds t2 s2 e2 q⟩
def Shnn : Shape JS := ⟨36, tdnn ds n d t2 s2 e2, fun _ q => (.exit 0, ⟨match q with
  | .i _ l _ => [(7, sl 4 0 l l)]
  | .m _ l _ => [(7, sl 5 0 l l)], hnn ds t2 s2 e2 q⟩)⟩
def stnn : JS → SS JS
  | .i j l out => .br (ltF j n) (askS (okJm ds out n n l j) <| .next 7 (List.range 5 ++ [6]) (.m (wrapF .i64 (j + 1)) (l + 1) (out ++ elS ds j d))) (.done 5 (List.range 5) 0)
  | .m j l out => .br (ltF j n) (askS (okJn ds out n n l j) <| .next 8 (List.range 5 ++ [7]) (.m (wrapF .i64 (j + 1)) (l + 1) (out ++ elS ds j d))) (.done 6 (List.range 6) 0)
noncomputable def Cnn : JS → Cfg
  | .i j l out => ⟨T14, sp34_, off_, LJm ds out n n l d j t2 s2 e2 noL⟩
  | .m j l out => ⟨T14, sp34_, off_, LJn ds out n n l d j t2 s2 e2 noL⟩
end
section
variable {ds : List Value} {n : Nat} {d : Int} {t2 s2 : Nat} {e2 : Bool}
theorem hnn_flat (h : ds.all Ex.flat = true) {q : JS} (hq : GdJ q) : ∀ o, (o, true) ∈ hnn ds t2 s2 e2 q → FlatO o := by
  intro o ho
  cases q <;> simp [hnn] at ho <;> rcases ho with rfl | rfl
  · exact fun x hx => List.all_eq_true.1 h x hx
  · exact fun x hx => List.all_eq_true.1 hq x hx
  · exact fun x hx => List.all_eq_true.1 h x hx
  · exact fun x hx => List.all_eq_true.1 hq x hx
theorem goodnn : ∀ q q', GdJ q → (stnn ds n d q).sel = some (.inl q') → GdJ q' := by
  intro q q' hg h
  cases q with
  | i j l out =>
    rcases br_or' h with h | h
    · have h := ask_or' h; cases h; exact app_flat hg rfl
    · cases h
  | m j l out =>
    rcases br_or' h with h | h
    · have h := ask_or' h; cases h; exact app_flat hg rfl
    · cases h
theorem Lnn (h : ds.all Ex.flat = true) : Loop1 Try.prog 3 36 B34 (Shnn ds n d t2 s2 e2) 5 (stnn ds n d) GdJ :=
  .mk' (C := Cnn ds n d t2 s2 e2) (n := 60) (fun q _ => by cases q <;> exact ts14) (fun q hq => by
    cases q with
    | i _ _ _ => exact lsJm .none h hq
    | m _ _ _ => exact lsJn .none h hq) (fun q ro _ => by cases q <;> kernel_rfl) (fun q ro _ => by cases q <;> kernel_rfl) (fun q => by cases q <;> kernel_rfl)
    goodnn (fun _ hq => hnn_flat h hq) (fun _ _ hq _ => ⟨hnn_flat h hq, fun h => by cases h⟩)
end
section
variable (ds : List Value) (n : Nat) (d : Int) (t2 s2 : Nat) (e2 : Bool)
def hss : JS → List (CO × Bool)
  | .i _ _ out => [(.dead, false), (.cells ds t2 s2 e2, true), (.dead, false), (.cells out 70 2 false, true)]
  | .m _ _ out => [(.dead, false), (.cells ds t2 s2 e2, true), (.dead, false), (.dead, false), (.cells out 70 2 false, true)]
def tdss (q : JS) : Go.Ex.Told := ⟨match q with
  | .i j l _ => [(1, sl 1 0 n n), (2, i d), (7, sl 3 0 l l), (8, i j)]
  | .m j l _ => [(1, sl 1 0 n n), (2, i d), (7, sl 4 0 l l), (8, i j)], hss ds t2 s2 e2 q⟩
def Shss : Shape JS := ⟨36, tdss ds n d t2 s2 e2, fun _ q => (.exit 0, ⟨match q with
  | .i _ l _ => [(7, sl 3 0 l l)]
  | .m _ l _ => [(7, sl 4 0 l l)], hss ds t2 s2 e2 q⟩)⟩
def stss : JS → SS JS
  | .i j l out => .br (ltF j n) (askS (okJs ds out n n l j) <| .next 6 (List.range 4 ++ [5]) (.m (wrapF .i64 (j + 1)) (l + 1) (out ++ elS ds j d))) (.done 4 (List.range 4) 0)
  | .m j l out => .br (ltF j n) (askS (okJt ds out n n l j) <| .next 7 (List.range 4 ++ [6]) (.m (wrapF .i64 (j + 1)) (l + 1) (out ++ elS ds j d))) (.done 5 (List.range 5) 0)
noncomputable def Css : JS → Cfg
  | .i j l out => ⟨T14, sp34_, off_, LJs ds out n n l d j t2 s2 e2 noL⟩
  | .m j l out => ⟨T14, sp34_, off_, LJt ds out n n l d j t2 s2 e2 noL⟩
end
section
variable {ds : List Value} {n : Nat} {d : Int} {t2 s2 : Nat} {e2 : Bool}
theorem hss_flat (h : ds.all Ex.flat = true) {q : JS} (hq : GdJ q) : ∀ o, (o, true) ∈ hss ds t2 s2 e2 q → FlatO o := by
  intro o ho
  cases q <;> simp [hss] at ho <;> rcases ho with rfl | rfl
  · exact fun x hx => List.all_eq_true.1 h x hx
  · exact fun x hx => List.all_eq_true.1 hq x hx
  · exact fun x hx => List.all_eq_true.1 h x hx
  · exact fun x hx => List.all_eq_true.1 hq x hx
theorem goodss : ∀ q q', GdJ q → (stss ds n d q).sel = some (.inl q') → GdJ q' := by
  intro q q' hg h
  cases q with
  | i j l out =>
    rcases br_or' h with h | h
    · have h := ask_or' h; cases h; exact app_flat hg rfl
    · cases h
  | m j l out =>
    rcases br_or' h with h | h
    · have h := ask_or' h; cases h; exact app_flat hg rfl
    · cases h
theorem Lss (h : ds.all Ex.flat = true) : Loop1 Try.prog 2 36 B34 (Shss ds n d t2 s2 e2) 4 (stss ds n d) GdJ :=
  .mk' (C := Css ds n d t2 s2 e2) (n := 60) (fun q _ => by cases q <;> exact ts14) (fun q hq => by
    cases q with
    | i _ _ _ => exact lsJs .none h hq
    | m _ _ _ => exact lsJt .none h hq) (fun q ro _ => by cases q <;> kernel_rfl) (fun q ro _ => by cases q <;> kernel_rfl) (fun q => by cases q <;> kernel_rfl)
    goodss (fun _ hq => hss_flat h hq) (fun _ _ hq _ => ⟨hss_flat h hq, fun h => by cases h⟩)
end
section
variable (ds : List Value) (n : Nat) (d : Int) (t2 s2 : Nat) (e2 : Bool)
def hzn : JS → List (CO × Bool)
  | .i _ _ _ => [(.dead, false), (.dead, false), (.cells ds t2 s2 e2, true), (.cells [] 70 2 true, true)]
  | .m _ _ out => [(.dead, false), (.dead, false), (.cells ds t2 s2 e2, true), (.dead, false), (.cells out 70 2 false, true)]
def tdzn (q : JS) : Go.Ex.Told := ⟨match q with
  | .i j _ _ => [(1, sl 2 0 n n), (2, i d), (7, sl 3 0 0 0), (8, i j)]
  | .m j l _ => [(1, sl 2 0 n n), (2, i d), (7, sl 4 0 l l), (8, i j)], hzn ds t2 s2 e2 q⟩
def Shzn : Shape JS := ⟨36, tdzn ds n d t2 s2 e2, fun _ q => (.exit 0, ⟨match q with
  | .i _ _ _ => [(7, sl 3 0 0 0)]
  | .m _ l _ => [(7, sl 4 0 l l)], hzn ds t2 s2 e2 q⟩)⟩
def stzn : JS → SS JS
  | .i j _ _ => .br (ltF j n) (askS (okJz ds n n j) <| .next 6 (List.range 4 ++ [5]) (.m (wrapF .i64 (j + 1)) 1 (elS ds j d))) (.done 4 (List.range 4) 0)
  | .m j l out => .br (ltF j n) (askS (okJm ds out n n l j) <| .next 7 (List.range 4 ++ [6]) (.m (wrapF .i64 (j + 1)) (l + 1) (out ++ elS ds j d))) (.done 5 (List.range 5) 0)
noncomputable def Czn : JS → Cfg
  | .i j _ _ => ⟨T14, sp34_, off_, LJz ds n n d j t2 s2 e2 noL⟩
  | .m j l out => ⟨T14, sp34_, off_, LJm ds out n n l d j t2 s2 e2 noL⟩
end
section
variable {ds : List Value} {n : Nat} {d : Int} {t2 s2 : Nat} {e2 : Bool}
theorem hzn_flat (h : ds.all Ex.flat = true) {q : JS} (hq : GdJ q) : ∀ o, (o, true) ∈ hzn ds t2 s2 e2 q → FlatO o := by
  intro o ho
  cases q <;> simp [hzn] at ho <;> rcases ho with rfl | rfl
  · exact fun x hx => List.all_eq_true.1 h x hx
  · exact fun x hx => List.all_eq_true.1 (by rfl) x hx
  · exact fun x hx => List.all_eq_true.1 h x hx
  · exact fun x hx => List.all_eq_true.1 hq x hx
theorem goodzn : ∀ q q', GdJ q → (stzn ds n d q).sel = some (.inl q') → GdJ q' := by
  intro q q' hg h
  cases q with
  | i j l out =>
    rcases br_or' h with h | h
    · have h := ask_or' h; cases h; exact (rfl : (elS ds j d).all Ex.flat = true)
    · cases h
  | m j l out =>
    rcases br_or' h with h | h
    · have h := ask_or' h; cases h; exact app_flat hg rfl
    · cases h
theorem Lzn (h : ds.all Ex.flat = true) : Loop1 Try.prog 3 36 B34 (Shzn ds n d t2 s2 e2) 4 (stzn ds n d) GdJ :=
  .mk' (C := Czn ds n d t2 s2 e2) (n := 60) (fun q _ => by cases q <;> exact ts14) (fun q hq => by
    cases q with
    | i _ _ _ => exact lsJz .none h
    | m _ _ _ => exact lsJm .none h hq) (fun q ro _ => by cases q <;> kernel_rfl) (fun q ro _ => by cases q <;> kernel_rfl) (fun q => by cases q <;> kernel_rfl)
    goodzn (fun _ hq => hzn_flat h hq) (fun _ _ hq _ => ⟨hzn_flat h hq, fun h => by cases h⟩)
end
end Go.Proofs.Yteemponkignnhaa.Ways
set_option maxRecDepth 10000
noncomputable section
namespace Go.Proofs.Yteemponkignnhaa.Ways
open Go Go.Ex Go.RowKit Go.Turn
def Q34 (P Q : List Pt) (d : Int) (j : Nat) : JS := match j with
  | 0 => .i 0 P.length (flatP P)
  | j + 1 => .m ((j + 1 : Nat) : Int) (P.length + (j + 1)) (flatP (P ++ (Q.take (j + 1)).map (shP d)))
theorem elS_eq {Q : List Pt} {d : Int} {j : Nat} (h : j < Q.length) : elS (flatP Q) (j : Int) d = flatP [shP d Q[j]] := by
  obtain ⟨g1, g2⟩ := flatP_get Q j h
  unfold elS
  rw [show ((j : Nat) : Int).toNat = j from rfl]
  have e1 : pA (flatP Q) j = Q[j].1 := by
    unfold pA
    rw [show 0 + j * 2 = j * 2 from by omega, g1]
    unfold Turn.at_
    rw [List.getD_eq_getElem?_getD, List.getElem?_eq_getElem h]; rfl
  have e2 : pB (flatP Q) j = Q[j].2 := by
    unfold pB
    rw [show 0 + j * 2 + 1 = j * 2 + 1 from by omega, g2]
    unfold Turn.at_
    rw [List.getD_eq_getElem?_getD, List.getElem?_eq_getElem h]; rfl
  rw [e1, e2]; rfl
theorem app34 {P Q : List Pt} {d : Int} {j : Nat} (h : j < Q.length) : flatP (P ++ (Q.take j).map (shP d)) ++ elS (flatP Q) (j : Int) d = flatP (P ++ (Q.take (j + 1)).map (shP d)) := by
  rw [elS_eq h, ← flatP_app, List.take_add_one, List.getElem?_eq_getElem h, List.map_append, List.append_assoc]; rfl
theorem cellsQ {Q : List Pt} {j : Nat} (h : j < Q.length) (hn : Q.length < 1000000) : bnd_ (j : Int) Q.length Q.length = true ∧ cA (flatP Q) (j : Int) = true ∧ cB2 (flatP Q) (j : Int) = true :=
  ⟨bnd_t h (Nat.le_refl _), cA_t (okP_flat hn) h, cB2_t (okP_flat hn) h⟩
theorem full34 {P Q : List Pt} {d : Int} {j : Nat} (h : j < Q.length) (hn : P.length + Q.length < 1000000) : full2 (P.length + j) (flatP (P ++ (Q.take j).map (shP d))) = true :=
  full2_t (by rw [flatP_len, List.length_append, List.length_map, List.length_take]; congr 1; omega) (by omega)
theorem run34 {step : JS → SS JS} {P Q : List Pt} {d : Int} (hn : P.length + Q.length < 1000000) (h1 : 1 ≤ Q.length)
    (hi : (step (.i 0 P.length (flatP P))).sel = some (.inl (.m (wrapF .i64 (0 + 1)) (P.length + 1) (flatP P ++ elS (flatP Q) 0 d))))
    (hm : ∀ j, 1 ≤ j → j < Q.length → (step (Q34 P Q d j)).sel = some (.inl (.m (wrapF .i64 ((j : Int) + 1)) (P.length + j + 1) (flatP (P ++ (Q.take j).map (shP d)) ++ elS (flatP Q) (j : Int) d))))
    (he : (step (Q34 P Q d Q.length)).sel = some (.inr 0)) : runS step (Q.length + 1) (.i 0 P.length (flatP P)) = some (0, Q34 P Q d Q.length) := by
  have key := run_all (step := step) (st := Q34 P Q d) (a := 0) Q.length (fun j hj => ?_) he
  · exact key
  · have e : ∀ X : JS, (JS.m (wrapF .i64 ((j : Int) + 1)) (P.length + j + 1) (flatP (P ++ (Q.take j).map (shP d)) ++ elS (flatP Q) (j : Int) d)) = Q34 P Q d (j + 1) := fun _ => by
      rw [app34 hj, wsucc (by omega)]; rfl
    cases j with
    | zero =>
      have hi' : (step (Q34 P Q d 0)).sel = _ := hi
      rw [hi', ← e (.i 0 0 [])]
      simp
    | succ j => rw [hm (j + 1) (by omega) hj, e (.i 0 0 [])]
section
variable {P Q : List Pt} {d : Int}
theorem run34nn (hn : P.length + Q.length < 1000000) (h1 : 1 ≤ Q.length) : runS (stnn (flatP Q) Q.length d) (Q.length + 1) (.i 0 P.length (flatP P)) = some (0, Q34 P Q d Q.length) := by
  refine run34 hn h1 ?_ (fun j hj0 hj => ?_) ?_
  · obtain ⟨g1, g2, g3⟩ := cellsQ (j := 0) h1 (by omega)
    have g4 := full34 (P := P) (d := d) (j := 0) h1 hn
    rw [List.take_zero, List.map_nil, List.append_nil] at g4
    unfold stnn
    rw [br_t (by rw [ltF_eq]; exact decide_eq_true (by omega)), askS_sel (by unfold okJm; rw [show ((0 : Int)) = ((0 : Nat) : Int) from rfl, g1, g2, g3]; exact g4)]; rfl
  · obtain ⟨g1, g2, g3⟩ := cellsQ hj (by omega)
    have g4 := full34 (P := P) (d := d) hj hn
    obtain ⟨j, rfl⟩ : ∃ i, j = i + 1 := ⟨j - 1, by omega⟩
    show (stnn (flatP Q) Q.length d (.m _ _ _)).sel = _
    unfold stnn
    rw [br_t (by rw [ltF_eq]; exact decide_eq_true (by omega)), askS_sel (by unfold okJn; rw [g1, g2, g3, g4]; rfl)]; rfl
  · obtain ⟨m, hm⟩ : ∃ m, Q.length = m + 1 := ⟨Q.length - 1, by omega⟩
    rw [hm]
    show (stnn (flatP Q) (m + 1) d (.m _ _ _)).sel = _
    unfold stnn
    rw [br_f (by rw [ltF_eq]; simp)]; rfl
theorem run34ss (hn : P.length + Q.length < 1000000) (h1 : 1 ≤ Q.length) : runS (stss (flatP Q) Q.length d) (Q.length + 1) (.i 0 P.length (flatP P)) = some (0, Q34 P Q d Q.length) := by
  refine run34 hn h1 ?_ (fun j hj0 hj => ?_) ?_
  · obtain ⟨g1, g2, g3⟩ := cellsQ (j := 0) h1 (by omega)
    have g4 := full34 (P := P) (d := d) (j := 0) h1 hn
    rw [List.take_zero, List.map_nil, List.append_nil] at g4
    unfold stss
    rw [br_t (by rw [ltF_eq]; exact decide_eq_true (by omega)), askS_sel (by unfold okJs; rw [show ((0 : Int)) = ((0 : Nat) : Int) from rfl, g1, g2, g3]; exact g4)]; rfl
  · obtain ⟨g1, g2, g3⟩ := cellsQ hj (by omega)
    have g4 := full34 (P := P) (d := d) hj hn
    obtain ⟨j, rfl⟩ : ∃ i, j = i + 1 := ⟨j - 1, by omega⟩
    show (stss (flatP Q) Q.length d (.m _ _ _)).sel = _
    unfold stss
    rw [br_t (by rw [ltF_eq]; exact decide_eq_true (by omega)), askS_sel (by unfold okJt; rw [g1, g2, g3, g4]; rfl)]; rfl
  · obtain ⟨m, hm⟩ : ∃ m, Q.length = m + 1 := ⟨Q.length - 1, by omega⟩
    rw [hm]
    show (stss (flatP Q) (m + 1) d (.m _ _ _)).sel = _
    unfold stss
    rw [br_f (by rw [ltF_eq]; simp)]; rfl
theorem run34zn (hn : Q.length < 1000000) (h1 : 1 ≤ Q.length) : runS (stzn (flatP Q) Q.length d) (Q.length + 1) (.i 0 0 []) = some (0, Q34 [] Q d Q.length) := by
  refine run34 (P := []) (by simpa using hn) h1 ?_ (fun j hj0 hj => ?_) ?_
  · obtain ⟨g1, g2, g3⟩ := cellsQ (j := 0) h1 (by omega)
    show (stzn (flatP Q) Q.length d (.i 0 0 [])).sel = _
    unfold stzn
    rw [br_t (by rw [ltF_eq]; exact decide_eq_true (by omega)), askS_sel (by unfold okJz; rw [show ((0 : Int)) = ((0 : Nat) : Int) from rfl, g1, g2, g3]; rfl)]; rfl
  · obtain ⟨g1, g2, g3⟩ := cellsQ hj (by omega)
    have g4 := full34 (P := []) (d := d) hj (by simpa using hn)
    obtain ⟨j, rfl⟩ : ∃ i, j = i + 1 := ⟨j - 1, by omega⟩
    show (stzn (flatP Q) Q.length d (.m _ _ _)).sel = _
    unfold stzn
    rw [br_t (by rw [ltF_eq]; exact decide_eq_true (by omega)), askS_sel (by unfold okJm; rw [g1, g2, g3, g4]; rfl)]; rfl
  · obtain ⟨m, hm⟩ : ∃ m, Q.length = m + 1 := ⟨Q.length - 1, by omega⟩
    rw [hm]
    show (stzn (flatP Q) (m + 1) d (.m _ _ _)).sel = _
    unfold stzn
    rw [br_f (by rw [ltF_eq]; simp)]; rfl
end
def sy34 : Nat → Nat → Bool := on_ [(36, 11), (36, 200011)]
noncomputable def lf34 (b l : Nat) (out : List Value) : NT := aN (tru (TokE out l l)) (.leaf b (.sl (RV out l).length (RV out l).length (flatP (RV out l)) 70 2 false))
section
variable (cs ds : List Value) (t s m t2 s2 k : Nat) (ex e2 : Bool) (d : Int)
noncomputable def Knn (q : JS) : Cfg := ⟨T14, no_, sy34, loopE noL 36 3 36 5 B34 ((Shnn ds (k + 1) d t2 s2 e2).st (.i 0 (m + 1) (xT cs m))).live ((Shnn ds (k + 1) d t2 s2 e2).st (.i 0 (m + 1) (xT cs m))).hp (finO (Shnn ds (k + 1) d t2 s2 e2) (0, q) [0])⟩
noncomputable def onn (j : Int) (l : Nat) (out : List Value) : Out QRes := execO Try.prog 3 (Knn cs ds m t2 s2 k e2 d (.m j l out)) 80 (.call 36 ⟨[sl 1 0 (m + 1) (m + 1), sl 2 0 (k + 1) (k + 1), i d]⟩ (heapL (deads ++ [.cells cs t s ex, .cells ds t2 s2 e2])))
theorem vnn (j : Int) (l : Nat) (out : List Value) : (onn cs ds t s m t2 s2 k ex e2 d j l out).news = aN (gT cs m) (aN true (lf34 6 l out)) := by kernel_rfl
theorem xnn (j : Int) (l : Nat) (out : List Value) : onn cs ds t s m t2 s2 k ex e2 d j l out = (onn cs ds t s m t2 s2 k ex e2 d j l out).fix := by kernel_rfl
noncomputable def Kss (q : JS) : Cfg := ⟨T14, no_, sy34, loopE noL 36 3 36 4 B34 ((Shss cs (m + 1) d t s ex).st (.i 0 (m + 1) (xT cs m))).live ((Shss cs (m + 1) d t s ex).st (.i 0 (m + 1) (xT cs m))).hp (finO (Shss cs (m + 1) d t s ex) (0, q) [0])⟩
noncomputable def oss (j : Int) (l : Nat) (out : List Value) : Out QRes := execO Try.prog 2 (Kss cs t s m ex d (.m j l out)) 80 (.call 36 ⟨[sl 1 0 (m + 1) (m + 1), sl 1 0 (m + 1) (m + 1), i d]⟩ (heapL (deads ++ [.cells cs t s ex])))
theorem vss (j : Int) (l : Nat) (out : List Value) : (oss cs t s m ex d j l out).news = aN (gT cs m) (aN true (lf34 5 l out)) := by kernel_rfl
theorem xss (j : Int) (l : Nat) (out : List Value) : oss cs t s m ex d j l out = (oss cs t s m ex d j l out).fix := by kernel_rfl
noncomputable def Kzn (q : JS) : Cfg := ⟨T14, no_, off_, loopE noL 36 3 36 4 B34 ((Shzn ds (k + 1) d t2 s2 e2).st (.i 0 0 [])).live ((Shzn ds (k + 1) d t2 s2 e2).st (.i 0 0 [])).hp (finO (Shzn ds (k + 1) d t2 s2 e2) (0, q) [0])⟩
noncomputable def ozn (j : Int) (l : Nat) (out : List Value) : Out QRes := execO Try.prog 3 (Kzn ds t2 s2 k e2 d (.m j l out)) 80 (.call 36 ⟨[sl 1 0 0 0, sl 2 0 (k + 1) (k + 1), i d]⟩ (heapL (deads ++ [.cells cs t s ex, .cells ds t2 s2 e2])))
theorem vzn (j : Int) (l : Nat) (out : List Value) : (ozn cs ds t s t2 s2 k ex e2 d j l out).news = aN true (lf34 5 l out) := by kernel_rfl
theorem xzn (j : Int) (l : Nat) (out : List Value) : ozn cs ds t s t2 s2 k ex e2 d j l out = (ozn cs ds t s t2 s2 k ex e2 d j l out).fix := by kernel_rfl
noncomputable def onz : Out QRes := execO Try.prog 3 ⟨T14, no_, sy34, noL⟩ 80 (.call 36 ⟨[sl 1 0 (m + 1) (m + 1), sl 2 0 0 0, i d]⟩ (heapL (deads ++ [.cells cs t s ex, .cells ds t2 s2 e2])))
theorem vnz : (onz cs ds t s m t2 s2 ex e2 d).news = aN (gT cs m) (lf34 5 (m + 1) (xT cs m)) := by kernel_rfl
theorem xnz : onz cs ds t s m t2 s2 ex e2 d = (onz cs ds t s m t2 s2 ex e2 d).fix := by kernel_rfl
noncomputable def ozz : Out QRes := execO Try.prog 3 ⟨T6, no_, off_, noL⟩ 80 (.call 36 ⟨[sl 1 0 0 0, sl 2 0 0 0, i d]⟩ (heapL (deads ++ [.cells cs t s ex, .cells ds t2 s2 e2])))
theorem vzz : (ozz cs ds t s t2 s2 ex e2 d).news = .leaf 1000000 (.old (.slice none 0 0)) := by kernel_rfl
theorem xzz : ozz cs ds t s t2 s2 ex e2 d = (ozz cs ds t s t2 s2 ex e2 d).fix := by kernel_rfl
end
def R34 (X : List Pt) : NRes := .sl (RV (flatP X) X.length).length (RV (flatP X) X.length).length (flatP (RV (flatP X) X.length)) 70 2 false
theorem lf34_sel {b : Nat} {X : List Pt} (h1 : 1 ≤ X.length) (h : X.length < 1000000) : (lf34 b X.length (flatP X)).sel = some (b, R34 X) := by
  unfold lf34
  rw [aN_sel (tru_iff.2 ⟨okP_flat h, h1, h⟩)]; rfl
theorem Q34_end {P Q : List Pt} {d : Int} (h1 : 1 ≤ Q.length) : Q34 P Q d Q.length = .m (Q.length : Int) (P ++ Q.map (shP d)).length (flatP (P ++ Q.map (shP d))) := by
  obtain ⟨m, hm⟩ : ∃ m, Q.length = m + 1 := ⟨Q.length - 1, by omega⟩
  have e : Q34 P Q d (m + 1) = .m ((m + 1 : Nat) : Int) (P.length + (m + 1)) (flatP (P ++ (Q.take (m + 1)).map (shP d))) := rfl
  rw [← hm] at e
  rw [e, List.take_length, List.length_append, List.length_map]
theorem gT_t {P : List Pt} {m : Nat} (h : P.length = m + 1) (hm : m < 900000) : gT (flatP P) m = true := by
  unfold gT
  rw [flatP_len, h]
  simp; omega
theorem xT_eq {P : List Pt} {m : Nat} (h : P.length = m + 1) : xT (flatP P) m = flatP P := by unfold xT; rw [List.drop_zero, List.take_of_length_le (by rw [flatP_len, h]; exact Nat.le_refl _)]
def sp34 : NSpec := fun al css => match al, css with
  | [.slice (some ⟨1, 0, none⟩) (m + 1) (m2 + 1), .slice (some ⟨2, 0, none⟩) (k + 1) (k2 + 1), .int .i64 d], [cs, ds] => some ((m2 = m ∧ k2 = k) ∧ RowE cs (m + 1) ∧ RowE ds (k + 1) ∧ m + k < 900000, R34 (JE cs ds m k d))
  | [.slice (some ⟨1, 0, none⟩) (m + 1) (m2 + 1), .slice (some ⟨1, 0, none⟩) (k + 1) (k2 + 1), .int .i64 d], [cs] => some ((m2 = m ∧ k2 = k ∧ k = m) ∧ RowE cs (m + 1) ∧ m + k < 900000, R34 (JE cs cs m k d))
  | [.slice (some ⟨1, 0, none⟩) 0 0, .slice (some ⟨2, 0, none⟩) (k + 1) (k2 + 1), .int .i64 d], [cs, ds] => some (k2 = k ∧ cs.all Ex.flat = true ∧ RowE ds (k + 1) ∧ k < 900000, R34 ((pts ds (k + 1)).map (shP d)))
  | [.slice (some ⟨1, 0, none⟩) (m + 1) (m2 + 1), .slice (some ⟨2, 0, none⟩) 0 0, .int .i64 _], [cs, ds] => some (m2 = m ∧ ds.all Ex.flat = true ∧ RowE cs (m + 1) ∧ m < 900000, R34 (pts cs (m + 1)))
  | [.slice (some ⟨1, 0, none⟩) 0 0, .slice (some ⟨2, 0, none⟩) 0 0, .int .i64 _], [cs, ds] => some (cs.all Ex.flat = true ∧ ds.all Ex.flat = true, .old (.slice none 0 0))
  | _, _ => none
theorem two_flat {cs ds : List Value} (h1 : cs.all Ex.flat = true) (h2 : ds.all Ex.flat = true) : ∀ c ∈ [cs, ds], c.all Ex.flat = true := fun c hc => by
  rcases List.mem_cons.1 hc with rfl | hc
  · exact h1
  · rw [List.mem_singleton] at hc; subst hc; exact h2
theorem one_flat {cs : List Value} (h1 : cs.all Ex.flat = true) : ∀ c ∈ [cs], c.all Ex.flat = true := fun c hc => by rw [List.mem_singleton] at hc; subst hc; exact h1
theorem c34 : ∀ al css os p v, sp34 al css = some (p, v) → p → Blks css os → (∀ cs ∈ css, cs.all Ex.flat = true) ∧ v.Ok Try.prog 36 al deads os (gl + css.length) := by
  intro al css os p v hs hp hb
  have hR : ∀ X, (R34 X).Fl := fun X => flatP_flat _
  unfold sp34 at hs
  split at hs
  · rename_i m m2 k k2 d cs ds
    cases hs
    obtain ⟨⟨rfl, rfl⟩, ⟨P, rfl, hP, _⟩, ⟨Q, rfl, hQ, _⟩, hn⟩ := hp
    obtain ⟨t, s, ex, t2, s2, e2, rfl⟩ := blks2 hb
    refine ⟨two_flat (flatP_flat _) (flatP_flat _), ?_⟩
    have hJ : JE (flatP P) (flatP Q) m2 k2 d = P ++ Q.map (shP d) := by unfold JE; rw [← hP, ← hQ, pts_flat P _ (Nat.le_refl _), pts_flat Q _ (Nat.le_refl _), List.take_length, List.take_length]
    have hr : runS (stnn (flatP Q) (k2 + 1) d) (k2 + 1 + 1) (.i 0 (m2 + 1) (xT (flatP P) m2)) = some (0, Q34 P Q d Q.length) := by
      rw [xT_eq hP, ← hQ, ← hP]; exact run34nn (by omega) (by omega)
    rw [Q34_end (by omega)] at hr
    have hL := (Lnn (ds := flatP Q) (n := k2 + 1) (d := d) (t2 := t2) (s2 := s2) (e2 := e2) (flatP_flat _)).table (id := 3) (s0 := .i 0 (m2 + 1) (xT (flatP P) m2)) .none (by decide) (show (xT (flatP P) m2).all Ex.flat = true by rw [xT_eq hP]; exact flatP_flat _) hr (by kernel_rfl) [0]
    rw [hJ]
    refine news_ok (C := Knn (flatP P) (flatP Q) m2 t2 s2 k2 e2 d _) (n := 80) ts14 hL (xnn _ _ t s m2 t2 s2 k2 ex e2 d _ _ _) (b := 6) ((congrArg NT.sel (vnn _ _ t s m2 t2 s2 k2 ex e2 d _ _ _)).trans ?_) (show 3 ≤ 6 by decide) (hR _)
    rw [aN_sel (gT_t hP (by omega)), aN_sel rfl]
    exact lf34_sel (by rw [List.length_append]; omega) (by rw [List.length_append, List.length_map]; omega)
  · rename_i m m2 k k2 d cs
    cases hs
    obtain ⟨⟨rfl, rfl, rfl⟩, ⟨P, rfl, hP, _⟩, hn⟩ := hp
    obtain ⟨t, s, ex, rfl⟩ := blks1 hb
    refine ⟨one_flat (flatP_flat _), ?_⟩
    have hJ : JE (flatP P) (flatP P) k2 k2 d = P ++ P.map (shP d) := by unfold JE; rw [← hP, pts_flat P _ (Nat.le_refl _), List.take_length]
    have hr : runS (stss (flatP P) (k2 + 1) d) (k2 + 1 + 1) (.i 0 (k2 + 1) (xT (flatP P) k2)) = some (0, Q34 P P d P.length) := by
      rw [xT_eq hP, ← hP]; exact run34ss (by omega) (by omega)
    rw [Q34_end (by omega)] at hr
    have hL := (Lss (ds := flatP P) (n := k2 + 1) (d := d) (t2 := t) (s2 := s) (e2 := ex) (flatP_flat _)).table (id := 3) (s0 := .i 0 (k2 + 1) (xT (flatP P) k2)) .none (by decide) (show (xT (flatP P) k2).all Ex.flat = true by rw [xT_eq hP]; exact flatP_flat _) hr (by kernel_rfl) [0]
    rw [hJ]
    refine news_ok (C := Kss (flatP P) t s k2 ex d _) (n := 80) ts14 hL (xss _ t s k2 ex d _ _ _) (b := 5) ((congrArg NT.sel (vss _ t s k2 ex d _ _ _)).trans ?_) (show 2 ≤ 5 by decide) (hR _)
    rw [aN_sel (gT_t hP (by omega)), aN_sel rfl]
    exact lf34_sel (by rw [List.length_append]; omega) (by rw [List.length_append, List.length_map]; omega)
  · rename_i k k2 d cs ds
    cases hs
    obtain ⟨rfl, hc, ⟨Q, rfl, hQ, _⟩, hn⟩ := hp
    obtain ⟨t, s, ex, t2, s2, e2, rfl⟩ := blks2 hb
    refine ⟨two_flat hc (flatP_flat _), ?_⟩
    have hr : runS (stzn (flatP Q) (k2 + 1) d) (k2 + 1 + 1) (.i 0 0 []) = some (0, Q34 [] Q d Q.length) := by
      rw [← hQ]; exact run34zn (by omega) (by omega)
    rw [Q34_end (by omega), List.nil_append] at hr
    have hL := (Lzn (ds := flatP Q) (n := k2 + 1) (d := d) (t2 := t2) (s2 := s2) (e2 := e2) (flatP_flat _)).table (id := 3) (s0 := .i 0 0 []) .none (by decide) (show ([] : List Value).all Ex.flat = true from rfl) hr (by kernel_rfl) [0]
    have hX : (pts (flatP Q) (k2 + 1)).map (shP d) = Q.map (shP d) := by rw [← hQ, pts_flat Q _ (Nat.le_refl _), List.take_length]
    rw [hX]
    refine news_ok (C := Kzn (flatP Q) t2 s2 k2 e2 d _) (n := 80) ts14 hL (xzn cs _ t s t2 s2 k2 ex e2 d _ _ _) (b := 5) ((congrArg NT.sel (vzn cs _ t s t2 s2 k2 ex e2 d _ _ _)).trans ?_) (show 3 ≤ 5 by decide) (hR _)
    rw [aN_sel rfl]
    exact lf34_sel (by rw [List.length_map]; omega) (by rw [List.length_map]; omega)
  · rename_i m m2 d cs ds
    cases hs
    obtain ⟨rfl, hd, ⟨P, rfl, hP, _⟩, hn⟩ := hp
    obtain ⟨t, s, ex, t2, s2, e2, rfl⟩ := blks2 hb
    refine ⟨two_flat (flatP_flat _) hd, ?_⟩
    have hX : pts (flatP P) (m2 + 1) = P := by rw [← hP, pts_flat P _ (Nat.le_refl _), List.take_length]
    rw [hX]
    refine news_ok (C := ⟨T14, no_, sy34, noL⟩) (n := 80) ts14 .none (xnz _ ds t s m2 t2 s2 ex e2 d) (b := 5) ((congrArg NT.sel (vnz _ ds t s m2 t2 s2 ex e2 d)).trans ?_) (show 3 ≤ 5 by decide) (hR _)
    rw [aN_sel (gT_t hP (by omega)), xT_eq hP, ← hP]
    exact lf34_sel (by omega) (by omega)
  · rename_i d cs ds
    cases hs
    obtain ⟨hc, hd⟩ := hp
    obtain ⟨t, s, ex, t2, s2, e2, rfl⟩ := blks2 hb
    refine ⟨two_flat hc hd, ?_⟩
    exact news_ok (C := ⟨T6, no_, off_, noL⟩) (n := 80) ts6 .none (xzz cs ds t s t2 s2 ex e2 d) (b := 1000000) ((congrArg NT.sel (vzz cs ds t s t2 s2 ex e2 d)).trans rfl) (show 3 ≤ 1000000 by decide) (show NRes.Fl (.old (.slice none 0 0)) from rfl)
  · cases hs
end Go.Proofs.Yteemponkignnhaa.Ways
set_option maxRecDepth 10000
noncomputable section
namespace Go.Proofs.Yteemponkignnhaa.Ways
open Go Go.Ex Go.RowKit Go.Turn
noncomputable def TX6 : Tb := ext (ext (ext TX3 20 (autoE sp18 [] (heapL deads))) 22 (autoE sp18 [] (heapL deads))) 36 (newE sp34 [] (heapL deads))
theorem tsX6 {G : Nat} : TSound Try.prog G TX6 := ((tsX3.auto c18).auto c20).new c34
section
variable (cs ds : List Value) (t s n c t2 s2 m c2 : Nat) (ex e2 : Bool) (d : Int)
end
noncomputable def er28 (F : Int) (t : NT) : NT := .br (!eqF F 0) (.leaf 1000000 (.old (tp [.slice none 0 0, i F]))) t
section
variable (cs ds : List Value) (t s m t2 s2 k : Nat) (ex e2 : Bool) (d : Int)
end
end Go.Proofs.Yteemponkignnhaa.Ways
set_option maxRecDepth 10000
noncomputable section
namespace Go.Proofs.Yteemponkignnhaa.Ways
open Go Go.Ex Go.RowKit Go.Turn
def gq (g : Bool) (e : Int) : Prop := if g = true then e = 0 else e ≠ 0
theorem RowE.bok {cs : List Value} {n : Nat} (h : RowE cs n) : BokE cs n n := by
  obtain ⟨P, rfl, rfl, hn⟩ := h
  exact ⟨okP_flat hn, hn⟩
end Go.Proofs.Yteemponkignnhaa.Ways
set_option maxRecDepth 10000
noncomputable section
namespace Go.Proofs.Yteemponkignnhaa.Ways
open Go Go.Ex Go.RowKit Go.Turn
def sh29 (cs : List Value) (w : Int) : Int := wrapF .i64 (wrapF .i64 (pA cs w.toNat - pA cs 0) + 1)
def XJ (cs : List Value) (m : Nat) (d : Int) : List Pt := RV (flatP (JE cs cs m m d)) (JE cs cs m m d).length
def CJ (cs : List Value) (m : Nat) (d : Int) : List Cy := (cnt (flatP (XJ cs m d)) (XJ cs m d).length).2
section
variable (cs : List Value) (t s m : Nat) (ex : Bool)
end
end Go.Proofs.Yteemponkignnhaa.Ways
set_option maxRecDepth 10000
noncomputable section
namespace Go.Proofs.Yteemponkignnhaa.Ways
open Go Go.Ex Go.RowKit Go.Turn
def fq (f : Bool) (C : List Cy) : Prop := if f = true then C ≠ [] else C = []
def dJ (cs : List Value) (m : Nat) : Int := sh29 cs (m : Int)
def e29 (cs : List Value) (m : Nat) : Int := if crE cs (m + 1) ≠ 0 then crE cs (m + 1) else eJ (JE cs cs m m (dJ cs m))
end Go.Proofs.Yteemponkignnhaa.Ways
