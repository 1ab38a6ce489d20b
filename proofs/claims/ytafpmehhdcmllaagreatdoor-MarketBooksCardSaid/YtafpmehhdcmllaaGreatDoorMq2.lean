import Derived.Test.YtafpmehhdcmllaaGreatDoorMq1
set_option maxRecDepth 10000
noncomputable section
namespace Go.Proofs.YtafpmehhdcmllaaGreatDoor.Ways
open Go Go.Ex Go.RowKit
/-! ### MarketBooks: the law's region 5, a part without rows -/
section
variable (cs ps : List Value) (N M : Nat) (X : Int) (t s t2 s2 : Nat) (ex e2 : Bool)
noncomputable def hp5z : List (CO × Bool) := hp5 cs ps N t s t2 s2 ex e2
noncomputable def s5z : SymS where
  live0 := [(0, sl 4 0 N N), (1, sl 5 0 M M), (6, b_ false), (7, i X), (8, pt 8 0), (9, i 0)]
  S := [(52, 0, sl 4 0 N N), (53, 1, i X), (54, 2, sl 4 0 X.toNat N), (55, 3, .slice none 0 0), (56, 4, sl 5 0 M M), (57, 5, i X), (58, 6, sl 5 0 X.toNat M), (59, 7, .slice none 0 0),
    (60, 8, tp [agT (zQ6), i 0]), (51, 9, tp [agT (zQ6), i 0]), (61, 10, agT (zQ6)), (62, 11, i 0), (10, 12, pt 9 0), (11, 14, i 0)]
  hp0 := hp5z cs ps N t s t2 s2 ex e2
  A := [(12, .cells [i 0, i 0, i 0, i 0, i 0] 86 1 true, 13, .cells (tot (zQ6)) 86 1 true)]
noncomputable def cd5z (j : Nat) : List Bool := match j with
  | 2 => [leF 0 0 && (leF 0 X && leF X N)]
  | 3 => [tru (CzO k5 5 (0) cs X.toNat N)]
  | 6 => [leF 0 0 && (leF 0 X && leF X M)]
  | 7 => [tru (CzO k3 3 (0) ps X.toNat M)]
  | _ => []
end
def rho5z (j : Nat) : List Nat := match j with
  | 12 => (List.range 10).set 9 10
  | _ => List.range 10
def len5z (j : Nat) : Nat := cond (Nat.beq j 12) 11 10
def ans5z (j : Nat) : List Bool := match j with
  | 2 => [true]
  | 3 => [true]
  | 6 => [true]
  | 7 => [true]
  | _ => []
section
variable (cs ps : List Value) (N M : Nat) (X : Int) (t s t2 s2 : Nat) (ex e2 : Bool)
theorem fix5z : ∀ B : List Bool, B.length = O5.size → (List.range O5.size).map (fun j => outV (tabW (CPz)) Tryz.prog 6 (CPz) 12 O5 250 (s5z cs ps N M X t s t2 s2 ex e2) (forceN O5.size (preN O5) j B) j) = (List.range O5.size).map fun j => (outV (tabW (CPz)) Tryz.prog 6 (CPz) 12 O5 250 (s5z cs ps N M X t s t2 s2 ex e2) (forceN O5.size (preN O5) j B) j).fix
  | [x0, x1, x2, x3, x4, x5, x6, x7, x8, x9, x10, x11, x12, x13, x14], _ => by kernel_rfl
theorem obs5z : ∀ B : List Bool, B.length = O5.size → (List.range O5.size).map (fun j => obsV (tabW (CPz)) Tryz.prog 6 (CPz) 12 O5 250 (s5z cs ps N M X t s t2 s2 ex e2) rho5z ans5z (forceN O5.size (preN O5) j B) j) = (List.range O5.size).map fun j => expY 250 (s5z cs ps N M X t s t2 s2 ex e2) rho5z (cd5z cs ps N M X) len5z (forceN O5.size (preN O5) j B) j
  | [x0, x1, x2, x3, x4, x5, x6, x7, x8, x9, x10, x11, x12, x13, x14], _ => by kernel_rfl
end
section
variable {cs ps : List Value} {N M : Nat} {X : Int} {t s t2 s2 : Nat} {ex e2 : Bool}
theorem hp5z_flat (f1 : cs.all Ex.flat = true) (f2 : ps.all Ex.flat = true) : ∀ o, (o, true) ∈ hp5z cs ps N t s t2 s2 ex e2 → FlatO o := by
  intro o ho
  simp [hp5z, hp5] at ho
  rcases ho with rfl | rfl | rfl | rfl | rfl
  · exact fun x hx => List.all_eq_true.1 f1 x hx
  · exact fun x hx => List.all_eq_true.1 f2 x hx
  · exact fun x hx => List.all_eq_true.1 f1 x hx
  · exact fun x hx => List.all_eq_true.1 f2 x hx
  · exact fun x hx => List.all_eq_true.1 (by rfl) x hx
/-- what must hold -/
def H5z (cs ps : List Value) (N M : Nat) (X : Int) : Prop := 0 ≤ X ∧ X ≤ N ∧ X ≤ M ∧ CzO k5 5 (0) cs X.toNat N ∧ CzO k3 3 (0) ps X.toNat M
theorem cd5z_ok (h : H5z cs ps N M X) : ∀ j, cd5z cs ps N M X j = (ans5z j).take (cd5z cs ps N M X j).length := by
  obtain ⟨h1, h2, h3, h4, h5⟩ := h
  have e : ∀ K : Nat, X ≤ K → (leF 0 0 && (leF 0 X && leF X K)) = true := fun K hK => by
    rw [leF_eq, leF_eq, leF_eq, decide_eq_true h1, decide_eq_true hK]; rfl
  intro j
  unfold cd5z ans5z
  split
  · rw [e N h2]; rfl
  · rw [tru_iff.2 h4]; rfl
  · rw [e M h3]; rfl
  · rw [tru_iff.2 h5]; rfl
  · rfl
theorem ord5z (f1 : cs.all Ex.flat = true) (f2 : ps.all Ex.flat = true) (h : H5z cs ps N M X) : Orders (selfA (qS (tabW (CPz)))) Tryz.prog 6 O5 9 (fun m => m < 2 ^ O5.size ∧ GoodY O5 (bitsL O5.size m)) (fun m => absT (tmL 250 ((s5z cs ps N M X t s t2 s2 ex e2).live (bitsL O5.size m)))) (fun m => heapL ((s5z cs ps N M X t s t2 s2 ex e2).hp (bitsL O5.size m))) (2 ^ O5.size - 1) :=
  sym_ofW (fix5z cs ps N M X t s t2 s2 ex e2) (obs5z cs ps N M X t s t2 s2 ex e2) (cd5z_ok h) (by kernel_rfl) (by kernel_rfl) (by kernel_rfl) (by kernel_rfl) (by kernel_rfl) (hp5z_flat f1 f2)
    (fun q hq => by
      simp only [s5z, List.mem_cons, List.not_mem_nil, or_false] at hq
      subst hq
      exact ⟨fun x hx => List.all_eq_true.1 (by rfl) x hx, fun x hx => List.all_eq_true.1 (by rfl) x hx⟩)
end
section
variable (cs ps : List Value) (N M : Nat) (X : Int) (t s t2 s2 : Nat) (ex e2 : Bool)
noncomputable def tm5z : TM := tmL 250 ((s5z cs ps N M X t s t2 s2 ex e2).live (List.replicate 15 true))
noncomputable def h5z : CH := heapL ((s5z cs ps N M X t s t2 s2 ex e2).hp (List.replicate 15 true))
theorem end5z : bitsL O5.size (2 ^ O5.size - 1) = List.replicate 15 true := by kernel_rfl
theorem pad5z : heapL ((s5z cs ps N M X t s t2 s2 ex e2).hp (bitsL O5.size 0)) = heapL ((s5z cs ps N M X t s t2 s2 ex e2).hp0.map (·.1) ++ List.replicate 1 .dead) := by kernel_rfl
theorem zero5z : tmL 250 ((s5z cs ps N M X t s t2 s2 ex e2).live (bitsL O5.size 0)) = tmL 250 (s5z cs ps N M X t s t2 s2 ex e2).live0 := by kernel_rfl
variable {cs ps N M X t s t2 s2 ex e2}
theorem snd5z (f1 : cs.all Ex.flat = true) (f2 : ps.all Ex.flat = true) (h : H5z cs ps N M X) (ro : Option Nat) {tm0 : Array Value} {H0 : CH} (hk : H0.length = 9) (hst : Restate 9 tm0 H0 (absT (tmL 250 (s5z cs ps N M X t s t2 s2 ex e2).live0)) (heapL ((s5z cs ps N M X t s t2 s2 ex e2).hp0.map (·.1)))) :
    Sound Tryz.prog 6 (.code (.region 5 O5 true) ro tm0 H0 []) (.ex .normal (absT (tm5z cs ps N M X t s t2 s2 ex e2)) (h5z cs ps N M X t s t2 s2 ex e2) []) := by
  have ho := ord5z (t := t) (s := s) (t2 := t2) (s2 := s2) (ex := ex) (e2 := e2) f1 f2 h
  have hp := pad5z cs ps N M X t s t2 s2 ex e2
  have hz := zero5z cs ps N M X t s t2 s2 ex e2
  have h0 := goodY_zero O5
  unfold tm5z h5z
  rw [← end5z]
  rw [← hz] at hst
  generalize s5z cs ps N M X t s t2 s2 ex e2 = s at *
  rw [← hk] at ho hst
  exact orders_sound2 (tmS := fun m => absT (tmL 250 (s.live (bitsL O5.size m)))) (HS := fun m => heapL (s.hp (bitsL O5.size m))) (mF := 2 ^ O5.size - 1) (qS_selfSound (tabW_sound (tsPz))) mix5 ho (by rw [hk]; decide) h0 hp hst ro
end
section
variable (cs ps : List Value) (N M : Nat) (X : Int) (t s t2 s2 : Nat) (ex e2 : Bool)
noncomputable def L5z (L : LTab) : LTab := regE L 12 5 250 9 O5 (s5z cs ps N M X t s t2 s2 ex e2).live0 (s5z cs ps N M X t s t2 s2 ex e2).hp0 (.leaf (.ex .normal (tm5z cs ps N M X t s t2 s2 ex e2) (h5z cs ps N M X t s t2 s2 ex e2) []))
theorem ls5z {L : LTab} (hL : LSound Tryz.prog 6 L) (f1 : cs.all Ex.flat = true) (f2 : ps.all Ex.flat = true) (h : H5z cs ps N M X) : LSound Tryz.prog 6 (L5z cs ps N M X t s t2 s2 ex e2 L) := by
  refine LSound.region hL (by kernel_rfl) (hp5z_flat f1 f2) fun r hr ro tm0 H0 hk hst => ?_
  cases hr
  exact snd5z f1 f2 h ro hk hst
end
end Go.Proofs.YtafpmehhdcmllaaGreatDoor.Ways
set_option maxRecDepth 10000
noncomputable section
namespace Go.Proofs.YtafpmehhdcmllaaGreatDoor.Ways
open Go Go.Ex Go.RowKit
/-! ### MarketBooks: the law's region 6, a part with rows, behind a part with rows -/
section
variable (cs ps : List Value) (N M : Nat) (X : Int) (t s t2 s2 : Nat) (ex e2 : Bool)
noncomputable def hp6a : List (CO × Bool) := hp5 cs ps N t s t2 s2 ex e2 ++ [(.cells (ptO 5 cs 0 X.toNat) 77 5 false, true), (.cells (ptO 3 ps 0 X.toNat) 31 3 false, true), (.cells (tot (bkP (ptO 5 cs 0 X.toNat) (ptO 3 ps 0 X.toNat) X.toNat)) 86 1 true, true)]
noncomputable def s6a : SymS where
  live0 := [(0, sl 4 0 N N), (1, sl 5 0 M M), (6, b_ false), (7, i X), (8, pt 8 0), (9, i 0), (10, pt 11 0), (11, i 0)]
  S := [(64, 0, sl 4 0 N N), (65, 1, i X), (66, 2, sl 4 (0 + X.toNat * 5) (N - X.toNat) (N - X.toNat)), (67, 3, sl 12 0 (N - X.toNat) (N - X.toNat)), (68, 4, sl 5 0 M M), (69, 5, i X), (70, 6, sl 5 (0 + X.toNat * 3) (M - X.toNat) (M - X.toNat)), (71, 7, sl 13 0 (M - X.toNat) (M - X.toNat)),
    (72, 8, tp [agT (bkP (ptO 5 cs (0 + X.toNat * 5) (N - X.toNat)) (ptO 3 ps (0 + X.toNat * 3) (M - X.toNat)) (N - X.toNat)), i 0]), (63, 9, tp [agT (bkP (ptO 5 cs (0 + X.toNat * 5) (N - X.toNat)) (ptO 3 ps (0 + X.toNat * 3) (M - X.toNat)) (N - X.toNat)), i 0]), (73, 10, agT (bkP (ptO 5 cs (0 + X.toNat * 5) (N - X.toNat)) (ptO 3 ps (0 + X.toNat * 3) (M - X.toNat)) (N - X.toNat))), (74, 11, i 0), (12, 12, pt 14 0), (13, 14, i 0)]
  hp0 := hp6a cs ps N X t s t2 s2 ex e2
  A := [(3, .cells (ptO 5 cs (0 + X.toNat * 5) (N - X.toNat)) 77 5 false, 3, .cells (ptO 5 cs (0 + X.toNat * 5) (N - X.toNat)) 77 5 false), (7, .cells (ptO 3 ps (0 + X.toNat * 3) (M - X.toNat)) 31 3 false, 7, .cells (ptO 3 ps (0 + X.toNat * 3) (M - X.toNat)) 31 3 false), (12, .cells [i 0, i 0, i 0, i 0, i 0] 86 1 true, 13, .cells (tot (bkP (ptO 5 cs (0 + X.toNat * 5) (N - X.toNat)) (ptO 3 ps (0 + X.toNat * 3) (M - X.toNat)) (N - X.toNat))) 86 1 true)]
noncomputable def cd6a (j : Nat) : List Bool := match j with
  | 2 => [leF 0 X && (leF X N && leF N N)]
  | 3 => [tru (CmO k5 5 (0 + X.toNat * 5) cs (N - X.toNat) (N - X.toNat))]
  | 6 => [leF 0 X && (leF X M && leF M M)]
  | 7 => [tru (CmO k3 3 (0 + X.toNat * 3) ps (M - X.toNat) (M - X.toNat))]
  | 8 => [tru (GoE (ptO 5 cs (0 + X.toNat * 5) (N - X.toNat)) (ptO 3 ps (0 + X.toNat * 3) (M - X.toNat)) (N - X.toNat) (N - X.toNat) (M - X.toNat) (M - X.toNat))]
  | _ => []
end
def rho6a (j : Nat) : List Nat := match j with
  | 3 => (List.range 15).set 12 15
  | 7 => (List.range 15).set 13 15
  | 12 => (List.range 15).set 14 15
  | _ => List.range 15
def len6a (j : Nat) : Nat := cond (Nat.beq j 3 || (Nat.beq j 7 || Nat.beq j 12)) 16 15
def ans6a (j : Nat) : List Bool := match j with
  | 2 => [true]
  | 3 => [true]
  | 6 => [true]
  | 7 => [true]
  | 8 => [true]
  | _ => []
section
variable (cs ps : List Value) (N M : Nat) (X : Int) (t s t2 s2 : Nat) (ex e2 : Bool)
theorem fix6a : ∀ B : List Bool, B.length = O6.size → (List.range O6.size).map (fun j => outV (tabW (CP false)) Tryz.prog 6 (CP false) 12 O6 250 (s6a cs ps N M X t s t2 s2 ex e2) (forceN O6.size (preN O6) j B) j) = (List.range O6.size).map fun j => (outV (tabW (CP false)) Tryz.prog 6 (CP false) 12 O6 250 (s6a cs ps N M X t s t2 s2 ex e2) (forceN O6.size (preN O6) j B) j).fix
  | [x0, x1, x2, x3, x4, x5, x6, x7, x8, x9, x10, x11, x12, x13, x14], _ => by kernel_rfl
theorem obs6a : ∀ B : List Bool, B.length = O6.size → (List.range O6.size).map (fun j => obsV (tabW (CP false)) Tryz.prog 6 (CP false) 12 O6 250 (s6a cs ps N M X t s t2 s2 ex e2) rho6a ans6a (forceN O6.size (preN O6) j B) j) = (List.range O6.size).map fun j => expY 250 (s6a cs ps N M X t s t2 s2 ex e2) rho6a (cd6a cs ps N M X) len6a (forceN O6.size (preN O6) j B) j
  | [x0, x1, x2, x3, x4, x5, x6, x7, x8, x9, x10, x11, x12, x13, x14], _ => by kernel_rfl
end
section
variable {cs ps : List Value} {N M : Nat} {X : Int} {t s t2 s2 : Nat} {ex e2 : Bool}
theorem hp6a_flat (f1 : cs.all Ex.flat = true) (f2 : ps.all Ex.flat = true) : ∀ o, (o, true) ∈ hp6a cs ps N X t s t2 s2 ex e2 → FlatO o := by
  intro o ho
  simp [hp6a, hp5] at ho
  rcases ho with rfl | rfl | rfl | rfl | rfl | rfl | rfl | rfl
  · exact fun x hx => List.all_eq_true.1 f1 x hx
  · exact fun x hx => List.all_eq_true.1 f2 x hx
  · exact fun x hx => List.all_eq_true.1 f1 x hx
  · exact fun x hx => List.all_eq_true.1 f2 x hx
  · exact fun x hx => List.all_eq_true.1 (by rfl) x hx
  · exact fun x hx => List.all_eq_true.1 (pt_flat f1) x hx
  · exact fun x hx => List.all_eq_true.1 (pt_flat f2) x hx
  · exact fun x hx => List.all_eq_true.1 (by rfl) x hx
/-- what must hold -/
def H6a (cs ps : List Value) (N M : Nat) (X : Int) : Prop := 0 ≤ X ∧ X ≤ N ∧ X ≤ M ∧ CmO k5 5 (0 + X.toNat * 5) cs (N - X.toNat) (N - X.toNat) ∧ CmO k3 3 (0 + X.toNat * 3) ps (M - X.toNat) (M - X.toNat) ∧ GoE (ptO 5 cs (0 + X.toNat * 5) (N - X.toNat)) (ptO 3 ps (0 + X.toNat * 3) (M - X.toNat)) (N - X.toNat) (N - X.toNat) (M - X.toNat) (M - X.toNat)
theorem cd6a_ok (h : H6a cs ps N M X) : ∀ j, cd6a cs ps N M X j = (ans6a j).take (cd6a cs ps N M X j).length := by
  obtain ⟨h1, h2, h3, h4, h5, h6⟩ := h
  have e : ∀ K : Nat, X ≤ K → (leF 0 X && (leF X K && leF K K)) = true := fun K hK => by
    rw [leF_eq, leF_eq, leF_eq, decide_eq_true h1, decide_eq_true hK, decide_eq_true (show (K : Int) ≤ K from Int.le_refl _)]; rfl
  intro j
  unfold cd6a ans6a
  split
  · rw [e N h2]; rfl
  · rw [tru_iff.2 h4]; rfl
  · rw [e M h3]; rfl
  · rw [tru_iff.2 h5]; rfl
  · rw [tru_iff.2 h6]; rfl
  · rfl
theorem ord6a (f1 : cs.all Ex.flat = true) (f2 : ps.all Ex.flat = true) (h : H6a cs ps N M X) : Orders (selfA (qS (tabW (CP false)))) Tryz.prog 6 O6 12 (fun m => m < 2 ^ O6.size ∧ GoodY O6 (bitsL O6.size m)) (fun m => absT (tmL 250 ((s6a cs ps N M X t s t2 s2 ex e2).live (bitsL O6.size m)))) (fun m => heapL ((s6a cs ps N M X t s t2 s2 ex e2).hp (bitsL O6.size m))) (2 ^ O6.size - 1) :=
  sym_ofW (fix6a cs ps N M X t s t2 s2 ex e2) (obs6a cs ps N M X t s t2 s2 ex e2) (cd6a_ok h) (by kernel_rfl) (by kernel_rfl) (by kernel_rfl) (by kernel_rfl) (by kernel_rfl) (hp6a_flat f1 f2)
    (fun q hq => by
      simp only [s6a, List.mem_cons, List.not_mem_nil, or_false] at hq
      rcases hq with rfl | rfl | rfl
      · exact ⟨fun x hx => List.all_eq_true.1 (pt_flat f1) x hx, fun x hx => List.all_eq_true.1 (pt_flat f1) x hx⟩
      · exact ⟨fun x hx => List.all_eq_true.1 (pt_flat f2) x hx, fun x hx => List.all_eq_true.1 (pt_flat f2) x hx⟩
      · exact ⟨fun x hx => List.all_eq_true.1 (by rfl) x hx, fun x hx => List.all_eq_true.1 (by rfl) x hx⟩)
end
section
variable (cs ps : List Value) (N M : Nat) (X : Int) (t s t2 s2 : Nat) (ex e2 : Bool)
noncomputable def tm6a : TM := tmL 250 ((s6a cs ps N M X t s t2 s2 ex e2).live (List.replicate 15 true))
noncomputable def h6a : CH := heapL ((s6a cs ps N M X t s t2 s2 ex e2).hp (List.replicate 15 true))
theorem end6a : bitsL O6.size (2 ^ O6.size - 1) = List.replicate 15 true := by kernel_rfl
theorem pad6a : heapL ((s6a cs ps N M X t s t2 s2 ex e2).hp (bitsL O6.size 0)) = heapL ((s6a cs ps N M X t s t2 s2 ex e2).hp0.map (·.1) ++ List.replicate 3 .dead) := by kernel_rfl
theorem zero6a : tmL 250 ((s6a cs ps N M X t s t2 s2 ex e2).live (bitsL O6.size 0)) = tmL 250 (s6a cs ps N M X t s t2 s2 ex e2).live0 := by kernel_rfl
variable {cs ps N M X t s t2 s2 ex e2}
theorem snd6a (f1 : cs.all Ex.flat = true) (f2 : ps.all Ex.flat = true) (h : H6a cs ps N M X) (ro : Option Nat) {tm0 : Array Value} {H0 : CH} (hk : H0.length = 12) (hst : Restate 12 tm0 H0 (absT (tmL 250 (s6a cs ps N M X t s t2 s2 ex e2).live0)) (heapL ((s6a cs ps N M X t s t2 s2 ex e2).hp0.map (·.1)))) :
    Sound Tryz.prog 6 (.code (.region 6 O6 true) ro tm0 H0 []) (.ex .normal (absT (tm6a cs ps N M X t s t2 s2 ex e2)) (h6a cs ps N M X t s t2 s2 ex e2) []) := by
  have ho := ord6a (t := t) (s := s) (t2 := t2) (s2 := s2) (ex := ex) (e2 := e2) f1 f2 h
  have hp := pad6a cs ps N M X t s t2 s2 ex e2
  have hz := zero6a cs ps N M X t s t2 s2 ex e2
  have h0 := goodY_zero O6
  unfold tm6a h6a
  rw [← end6a]
  rw [← hz] at hst
  generalize s6a cs ps N M X t s t2 s2 ex e2 = s at *
  rw [← hk] at ho hst
  exact orders_sound2 (tmS := fun m => absT (tmL 250 (s.live (bitsL O6.size m)))) (HS := fun m => heapL (s.hp (bitsL O6.size m))) (mF := 2 ^ O6.size - 1) (qS_selfSound (tabW_sound (tsP false))) mix5 ho (by rw [hk]; decide) h0 hp hst ro
end
section
variable (cs ps : List Value) (N M : Nat) (X : Int) (t s t2 s2 : Nat) (ex e2 : Bool)
noncomputable def L6a (L : LTab) : LTab := regE L 12 6 250 12 O6 (s6a cs ps N M X t s t2 s2 ex e2).live0 (s6a cs ps N M X t s t2 s2 ex e2).hp0 (.leaf (.ex .normal (tm6a cs ps N M X t s t2 s2 ex e2) (h6a cs ps N M X t s t2 s2 ex e2) []))
theorem ls6a {L : LTab} (hL : LSound Tryz.prog 6 L) (f1 : cs.all Ex.flat = true) (f2 : ps.all Ex.flat = true) (h : H6a cs ps N M X) : LSound Tryz.prog 6 (L6a cs ps N M X t s t2 s2 ex e2 L) := by
  refine LSound.region hL (by kernel_rfl) (hp6a_flat f1 f2) fun r hr ro tm0 H0 hk hst => ?_
  cases hr
  exact snd6a f1 f2 h ro hk hst
end
end Go.Proofs.YtafpmehhdcmllaaGreatDoor.Ways
set_option maxRecDepth 10000
noncomputable section
namespace Go.Proofs.YtafpmehhdcmllaaGreatDoor.Ways
open Go Go.Ex Go.RowKit
/-! ### MarketBooks: the law's region 6, a part without rows, behind a part with rows -/
section
variable (cs ps : List Value) (N M : Nat) (X : Int) (t s t2 s2 : Nat) (ex e2 : Bool)
noncomputable def hp6z : List (CO × Bool) := hp5 cs ps N t s t2 s2 ex e2 ++ [(.cells (ptO 5 cs 0 X.toNat) 77 5 false, true), (.cells (ptO 3 ps 0 X.toNat) 31 3 false, true), (.cells (tot (bkP (ptO 5 cs 0 X.toNat) (ptO 3 ps 0 X.toNat) X.toNat)) 86 1 true, true)]
noncomputable def s6z : SymS where
  live0 := [(0, sl 4 0 N N), (1, sl 5 0 M M), (6, b_ false), (7, i X), (8, pt 8 0), (9, i 0), (10, pt 11 0), (11, i 0)]
  S := [(64, 0, sl 4 0 N N), (65, 1, i X), (66, 2, sl 4 (0 + X.toNat * 5) (N - X.toNat) (N - X.toNat)), (67, 3, .slice none 0 0), (68, 4, sl 5 0 M M), (69, 5, i X), (70, 6, sl 5 (0 + X.toNat * 3) (M - X.toNat) (M - X.toNat)), (71, 7, .slice none 0 0),
    (72, 8, tp [agT (zQ6), i 0]), (63, 9, tp [agT (zQ6), i 0]), (73, 10, agT (zQ6)), (74, 11, i 0), (12, 12, pt 12 0), (13, 14, i 0)]
  hp0 := hp6z cs ps N X t s t2 s2 ex e2
  A := [(12, .cells [i 0, i 0, i 0, i 0, i 0] 86 1 true, 13, .cells (tot (zQ6)) 86 1 true)]
noncomputable def cd6z (j : Nat) : List Bool := match j with
  | 2 => [leF 0 X && (leF X N && leF N N)]
  | 3 => [tru (CzO k5 5 (0 + X.toNat * 5) cs (N - X.toNat) (N - X.toNat))]
  | 6 => [leF 0 X && (leF X M && leF M M)]
  | 7 => [tru (CzO k3 3 (0 + X.toNat * 3) ps (M - X.toNat) (M - X.toNat))]
  | _ => []
end
def rho6z (j : Nat) : List Nat := match j with
  | 12 => (List.range 13).set 12 13
  | _ => List.range 13
def len6z (j : Nat) : Nat := cond (Nat.beq j 12) 14 13
def ans6z (j : Nat) : List Bool := match j with
  | 2 => [true]
  | 3 => [true]
  | 6 => [true]
  | 7 => [true]
  | _ => []
section
variable (cs ps : List Value) (N M : Nat) (X : Int) (t s t2 s2 : Nat) (ex e2 : Bool)
theorem fix6z : ∀ B : List Bool, B.length = O6.size → (List.range O6.size).map (fun j => outV (tabW (CPz)) Tryz.prog 6 (CPz) 12 O6 250 (s6z cs ps N M X t s t2 s2 ex e2) (forceN O6.size (preN O6) j B) j) = (List.range O6.size).map fun j => (outV (tabW (CPz)) Tryz.prog 6 (CPz) 12 O6 250 (s6z cs ps N M X t s t2 s2 ex e2) (forceN O6.size (preN O6) j B) j).fix
  | [x0, x1, x2, x3, x4, x5, x6, x7, x8, x9, x10, x11, x12, x13, x14], _ => by kernel_rfl
theorem obs6z : ∀ B : List Bool, B.length = O6.size → (List.range O6.size).map (fun j => obsV (tabW (CPz)) Tryz.prog 6 (CPz) 12 O6 250 (s6z cs ps N M X t s t2 s2 ex e2) rho6z ans6z (forceN O6.size (preN O6) j B) j) = (List.range O6.size).map fun j => expY 250 (s6z cs ps N M X t s t2 s2 ex e2) rho6z (cd6z cs ps N M X) len6z (forceN O6.size (preN O6) j B) j
  | [x0, x1, x2, x3, x4, x5, x6, x7, x8, x9, x10, x11, x12, x13, x14], _ => by kernel_rfl
end
section
variable {cs ps : List Value} {N M : Nat} {X : Int} {t s t2 s2 : Nat} {ex e2 : Bool}
theorem hp6z_flat (f1 : cs.all Ex.flat = true) (f2 : ps.all Ex.flat = true) : ∀ o, (o, true) ∈ hp6z cs ps N X t s t2 s2 ex e2 → FlatO o := by
  intro o ho
  simp [hp6z, hp5] at ho
  rcases ho with rfl | rfl | rfl | rfl | rfl | rfl | rfl | rfl
  · exact fun x hx => List.all_eq_true.1 f1 x hx
  · exact fun x hx => List.all_eq_true.1 f2 x hx
  · exact fun x hx => List.all_eq_true.1 f1 x hx
  · exact fun x hx => List.all_eq_true.1 f2 x hx
  · exact fun x hx => List.all_eq_true.1 (by rfl) x hx
  · exact fun x hx => List.all_eq_true.1 (pt_flat f1) x hx
  · exact fun x hx => List.all_eq_true.1 (pt_flat f2) x hx
  · exact fun x hx => List.all_eq_true.1 (by rfl) x hx
/-- what must hold -/
def H6z (cs ps : List Value) (N M : Nat) (X : Int) : Prop := 0 ≤ X ∧ X ≤ N ∧ X ≤ M ∧ CzO k5 5 (0 + X.toNat * 5) cs (N - X.toNat) (N - X.toNat) ∧ CzO k3 3 (0 + X.toNat * 3) ps (M - X.toNat) (M - X.toNat)
theorem cd6z_ok (h : H6z cs ps N M X) : ∀ j, cd6z cs ps N M X j = (ans6z j).take (cd6z cs ps N M X j).length := by
  obtain ⟨h1, h2, h3, h4, h5⟩ := h
  have e : ∀ K : Nat, X ≤ K → (leF 0 X && (leF X K && leF K K)) = true := fun K hK => by
    rw [leF_eq, leF_eq, leF_eq, decide_eq_true h1, decide_eq_true hK, decide_eq_true (show (K : Int) ≤ K from Int.le_refl _)]; rfl
  intro j
  unfold cd6z ans6z
  split
  · rw [e N h2]; rfl
  · rw [tru_iff.2 h4]; rfl
  · rw [e M h3]; rfl
  · rw [tru_iff.2 h5]; rfl
  · rfl
theorem ord6z (f1 : cs.all Ex.flat = true) (f2 : ps.all Ex.flat = true) (h : H6z cs ps N M X) : Orders (selfA (qS (tabW (CPz)))) Tryz.prog 6 O6 12 (fun m => m < 2 ^ O6.size ∧ GoodY O6 (bitsL O6.size m)) (fun m => absT (tmL 250 ((s6z cs ps N M X t s t2 s2 ex e2).live (bitsL O6.size m)))) (fun m => heapL ((s6z cs ps N M X t s t2 s2 ex e2).hp (bitsL O6.size m))) (2 ^ O6.size - 1) :=
  sym_ofW (fix6z cs ps N M X t s t2 s2 ex e2) (obs6z cs ps N M X t s t2 s2 ex e2) (cd6z_ok h) (by kernel_rfl) (by kernel_rfl) (by kernel_rfl) (by kernel_rfl) (by kernel_rfl) (hp6z_flat f1 f2)
    (fun q hq => by
      simp only [s6z, List.mem_cons, List.not_mem_nil, or_false] at hq
      subst hq
      exact ⟨fun x hx => List.all_eq_true.1 (by rfl) x hx, fun x hx => List.all_eq_true.1 (by rfl) x hx⟩)
end
section
variable (cs ps : List Value) (N M : Nat) (X : Int) (t s t2 s2 : Nat) (ex e2 : Bool)
noncomputable def tm6z : TM := tmL 250 ((s6z cs ps N M X t s t2 s2 ex e2).live (List.replicate 15 true))
noncomputable def h6z : CH := heapL ((s6z cs ps N M X t s t2 s2 ex e2).hp (List.replicate 15 true))
theorem end6z : bitsL O6.size (2 ^ O6.size - 1) = List.replicate 15 true := by kernel_rfl
theorem pad6z : heapL ((s6z cs ps N M X t s t2 s2 ex e2).hp (bitsL O6.size 0)) = heapL ((s6z cs ps N M X t s t2 s2 ex e2).hp0.map (·.1) ++ List.replicate 1 .dead) := by kernel_rfl
theorem zero6z : tmL 250 ((s6z cs ps N M X t s t2 s2 ex e2).live (bitsL O6.size 0)) = tmL 250 (s6z cs ps N M X t s t2 s2 ex e2).live0 := by kernel_rfl
variable {cs ps N M X t s t2 s2 ex e2}
theorem snd6z (f1 : cs.all Ex.flat = true) (f2 : ps.all Ex.flat = true) (h : H6z cs ps N M X) (ro : Option Nat) {tm0 : Array Value} {H0 : CH} (hk : H0.length = 12) (hst : Restate 12 tm0 H0 (absT (tmL 250 (s6z cs ps N M X t s t2 s2 ex e2).live0)) (heapL ((s6z cs ps N M X t s t2 s2 ex e2).hp0.map (·.1)))) :
    Sound Tryz.prog 6 (.code (.region 6 O6 true) ro tm0 H0 []) (.ex .normal (absT (tm6z cs ps N M X t s t2 s2 ex e2)) (h6z cs ps N M X t s t2 s2 ex e2) []) := by
  have ho := ord6z (t := t) (s := s) (t2 := t2) (s2 := s2) (ex := ex) (e2 := e2) f1 f2 h
  have hp := pad6z cs ps N M X t s t2 s2 ex e2
  have hz := zero6z cs ps N M X t s t2 s2 ex e2
  have h0 := goodY_zero O6
  unfold tm6z h6z
  rw [← end6z]
  rw [← hz] at hst
  generalize s6z cs ps N M X t s t2 s2 ex e2 = s at *
  rw [← hk] at ho hst
  exact orders_sound2 (tmS := fun m => absT (tmL 250 (s.live (bitsL O6.size m)))) (HS := fun m => heapL (s.hp (bitsL O6.size m))) (mF := 2 ^ O6.size - 1) (qS_selfSound (tabW_sound (tsPz))) mix5 ho (by rw [hk]; decide) h0 hp hst ro
end
section
variable (cs ps : List Value) (N M : Nat) (X : Int) (t s t2 s2 : Nat) (ex e2 : Bool)
noncomputable def L6z (L : LTab) : LTab := regE L 12 6 250 12 O6 (s6z cs ps N M X t s t2 s2 ex e2).live0 (s6z cs ps N M X t s t2 s2 ex e2).hp0 (.leaf (.ex .normal (tm6z cs ps N M X t s t2 s2 ex e2) (h6z cs ps N M X t s t2 s2 ex e2) []))
theorem ls6z {L : LTab} (hL : LSound Tryz.prog 6 L) (f1 : cs.all Ex.flat = true) (f2 : ps.all Ex.flat = true) (h : H6z cs ps N M X) : LSound Tryz.prog 6 (L6z cs ps N M X t s t2 s2 ex e2 L) := by
  refine LSound.region hL (by kernel_rfl) (hp6z_flat f1 f2) fun r hr ro tm0 H0 hk hst => ?_
  cases hr
  exact snd6z f1 f2 h ro hk hst
end
end Go.Proofs.YtafpmehhdcmllaaGreatDoor.Ways
set_option maxRecDepth 10000
noncomputable section
namespace Go.Proofs.YtafpmehhdcmllaaGreatDoor.Ways
open Go Go.Ex Go.RowKit
/-! ### MarketBooks: the law's region 6, a part with rows, behind a part without -/
section
variable (cs ps : List Value) (N M : Nat) (X : Int) (t s t2 s2 : Nat) (ex e2 : Bool)
noncomputable def hp6b : List (CO × Bool) := hp5 cs ps N t s t2 s2 ex e2 ++ [(.cells (tot zQ6) 86 1 true, true)]
noncomputable def s6b : SymS where
  live0 := [(0, sl 4 0 N N), (1, sl 5 0 M M), (6, b_ false), (7, i X), (8, pt 8 0), (9, i 0), (10, pt 9 0), (11, i 0)]
  S := [(64, 0, sl 4 0 N N), (65, 1, i X), (66, 2, sl 4 (0 + X.toNat * 5) (N - X.toNat) (N - X.toNat)), (67, 3, sl 10 0 (N - X.toNat) (N - X.toNat)), (68, 4, sl 5 0 M M), (69, 5, i X), (70, 6, sl 5 (0 + X.toNat * 3) (M - X.toNat) (M - X.toNat)), (71, 7, sl 11 0 (M - X.toNat) (M - X.toNat)),
    (72, 8, tp [agT (bkP (ptO 5 cs (0 + X.toNat * 5) (N - X.toNat)) (ptO 3 ps (0 + X.toNat * 3) (M - X.toNat)) (N - X.toNat)), i 0]), (63, 9, tp [agT (bkP (ptO 5 cs (0 + X.toNat * 5) (N - X.toNat)) (ptO 3 ps (0 + X.toNat * 3) (M - X.toNat)) (N - X.toNat)), i 0]), (73, 10, agT (bkP (ptO 5 cs (0 + X.toNat * 5) (N - X.toNat)) (ptO 3 ps (0 + X.toNat * 3) (M - X.toNat)) (N - X.toNat))), (74, 11, i 0), (12, 12, pt 12 0), (13, 14, i 0)]
  hp0 := hp6b cs ps N t s t2 s2 ex e2
  A := [(3, .cells (ptO 5 cs (0 + X.toNat * 5) (N - X.toNat)) 77 5 false, 3, .cells (ptO 5 cs (0 + X.toNat * 5) (N - X.toNat)) 77 5 false), (7, .cells (ptO 3 ps (0 + X.toNat * 3) (M - X.toNat)) 31 3 false, 7, .cells (ptO 3 ps (0 + X.toNat * 3) (M - X.toNat)) 31 3 false), (12, .cells [i 0, i 0, i 0, i 0, i 0] 86 1 true, 13, .cells (tot (bkP (ptO 5 cs (0 + X.toNat * 5) (N - X.toNat)) (ptO 3 ps (0 + X.toNat * 3) (M - X.toNat)) (N - X.toNat))) 86 1 true)]
noncomputable def cd6b (j : Nat) : List Bool := match j with
  | 2 => [leF 0 X && (leF X N && leF N N)]
  | 3 => [tru (CmO k5 5 (0 + X.toNat * 5) cs (N - X.toNat) (N - X.toNat))]
  | 6 => [leF 0 X && (leF X M && leF M M)]
  | 7 => [tru (CmO k3 3 (0 + X.toNat * 3) ps (M - X.toNat) (M - X.toNat))]
  | 8 => [tru (GoE (ptO 5 cs (0 + X.toNat * 5) (N - X.toNat)) (ptO 3 ps (0 + X.toNat * 3) (M - X.toNat)) (N - X.toNat) (N - X.toNat) (M - X.toNat) (M - X.toNat))]
  | _ => []
end
def rho6b (j : Nat) : List Nat := match j with
  | 3 => (List.range 13).set 10 13
  | 7 => (List.range 13).set 11 13
  | 12 => (List.range 13).set 12 13
  | _ => List.range 13
def len6b (j : Nat) : Nat := cond (Nat.beq j 3 || (Nat.beq j 7 || Nat.beq j 12)) 14 13
def ans6b (j : Nat) : List Bool := match j with
  | 2 => [true]
  | 3 => [true]
  | 6 => [true]
  | 7 => [true]
  | 8 => [true]
  | _ => []
section
variable (cs ps : List Value) (N M : Nat) (X : Int) (t s t2 s2 : Nat) (ex e2 : Bool)
theorem fix6b : ∀ B : List Bool, B.length = O6.size → (List.range O6.size).map (fun j => outV (tabW (CP false)) Tryz.prog 6 (CP false) 12 O6 250 (s6b cs ps N M X t s t2 s2 ex e2) (forceN O6.size (preN O6) j B) j) = (List.range O6.size).map fun j => (outV (tabW (CP false)) Tryz.prog 6 (CP false) 12 O6 250 (s6b cs ps N M X t s t2 s2 ex e2) (forceN O6.size (preN O6) j B) j).fix
  | [x0, x1, x2, x3, x4, x5, x6, x7, x8, x9, x10, x11, x12, x13, x14], _ => by kernel_rfl
theorem obs6b : ∀ B : List Bool, B.length = O6.size → (List.range O6.size).map (fun j => obsV (tabW (CP false)) Tryz.prog 6 (CP false) 12 O6 250 (s6b cs ps N M X t s t2 s2 ex e2) rho6b ans6b (forceN O6.size (preN O6) j B) j) = (List.range O6.size).map fun j => expY 250 (s6b cs ps N M X t s t2 s2 ex e2) rho6b (cd6b cs ps N M X) len6b (forceN O6.size (preN O6) j B) j
  | [x0, x1, x2, x3, x4, x5, x6, x7, x8, x9, x10, x11, x12, x13, x14], _ => by kernel_rfl
end
section
variable {cs ps : List Value} {N M : Nat} {X : Int} {t s t2 s2 : Nat} {ex e2 : Bool}
theorem hp6b_flat (f1 : cs.all Ex.flat = true) (f2 : ps.all Ex.flat = true) : ∀ o, (o, true) ∈ hp6b cs ps N t s t2 s2 ex e2 → FlatO o := by
  intro o ho
  simp [hp6b, hp5] at ho
  rcases ho with rfl | rfl | rfl | rfl | rfl | rfl
  · exact fun x hx => List.all_eq_true.1 f1 x hx
  · exact fun x hx => List.all_eq_true.1 f2 x hx
  · exact fun x hx => List.all_eq_true.1 f1 x hx
  · exact fun x hx => List.all_eq_true.1 f2 x hx
  · exact fun x hx => List.all_eq_true.1 (by rfl) x hx
  · exact fun x hx => List.all_eq_true.1 (by rfl) x hx
/-- what must hold -/
def H6b (cs ps : List Value) (N M : Nat) (X : Int) : Prop := 0 ≤ X ∧ X ≤ N ∧ X ≤ M ∧ CmO k5 5 (0 + X.toNat * 5) cs (N - X.toNat) (N - X.toNat) ∧ CmO k3 3 (0 + X.toNat * 3) ps (M - X.toNat) (M - X.toNat) ∧ GoE (ptO 5 cs (0 + X.toNat * 5) (N - X.toNat)) (ptO 3 ps (0 + X.toNat * 3) (M - X.toNat)) (N - X.toNat) (N - X.toNat) (M - X.toNat) (M - X.toNat)
theorem cd6b_ok (h : H6b cs ps N M X) : ∀ j, cd6b cs ps N M X j = (ans6b j).take (cd6b cs ps N M X j).length := by
  obtain ⟨h1, h2, h3, h4, h5, h6⟩ := h
  have e : ∀ K : Nat, X ≤ K → (leF 0 X && (leF X K && leF K K)) = true := fun K hK => by
    rw [leF_eq, leF_eq, leF_eq, decide_eq_true h1, decide_eq_true hK, decide_eq_true (show (K : Int) ≤ K from Int.le_refl _)]; rfl
  intro j
  unfold cd6b ans6b
  split
  · rw [e N h2]; rfl
  · rw [tru_iff.2 h4]; rfl
  · rw [e M h3]; rfl
  · rw [tru_iff.2 h5]; rfl
  · rw [tru_iff.2 h6]; rfl
  · rfl
theorem ord6b (f1 : cs.all Ex.flat = true) (f2 : ps.all Ex.flat = true) (h : H6b cs ps N M X) : Orders (selfA (qS (tabW (CP false)))) Tryz.prog 6 O6 10 (fun m => m < 2 ^ O6.size ∧ GoodY O6 (bitsL O6.size m)) (fun m => absT (tmL 250 ((s6b cs ps N M X t s t2 s2 ex e2).live (bitsL O6.size m)))) (fun m => heapL ((s6b cs ps N M X t s t2 s2 ex e2).hp (bitsL O6.size m))) (2 ^ O6.size - 1) :=
  sym_ofW (fix6b cs ps N M X t s t2 s2 ex e2) (obs6b cs ps N M X t s t2 s2 ex e2) (cd6b_ok h) (by kernel_rfl) (by kernel_rfl) (by kernel_rfl) (by kernel_rfl) (by kernel_rfl) (hp6b_flat f1 f2)
    (fun q hq => by
      simp only [s6b, List.mem_cons, List.not_mem_nil, or_false] at hq
      rcases hq with rfl | rfl | rfl
      · exact ⟨fun x hx => List.all_eq_true.1 (pt_flat f1) x hx, fun x hx => List.all_eq_true.1 (pt_flat f1) x hx⟩
      · exact ⟨fun x hx => List.all_eq_true.1 (pt_flat f2) x hx, fun x hx => List.all_eq_true.1 (pt_flat f2) x hx⟩
      · exact ⟨fun x hx => List.all_eq_true.1 (by rfl) x hx, fun x hx => List.all_eq_true.1 (by rfl) x hx⟩)
end
section
variable (cs ps : List Value) (N M : Nat) (X : Int) (t s t2 s2 : Nat) (ex e2 : Bool)
noncomputable def tm6b : TM := tmL 250 ((s6b cs ps N M X t s t2 s2 ex e2).live (List.replicate 15 true))
noncomputable def h6b : CH := heapL ((s6b cs ps N M X t s t2 s2 ex e2).hp (List.replicate 15 true))
theorem end6b : bitsL O6.size (2 ^ O6.size - 1) = List.replicate 15 true := by kernel_rfl
theorem pad6b : heapL ((s6b cs ps N M X t s t2 s2 ex e2).hp (bitsL O6.size 0)) = heapL ((s6b cs ps N M X t s t2 s2 ex e2).hp0.map (·.1) ++ List.replicate 3 .dead) := by kernel_rfl
theorem zero6b : tmL 250 ((s6b cs ps N M X t s t2 s2 ex e2).live (bitsL O6.size 0)) = tmL 250 (s6b cs ps N M X t s t2 s2 ex e2).live0 := by kernel_rfl
variable {cs ps N M X t s t2 s2 ex e2}
theorem snd6b (f1 : cs.all Ex.flat = true) (f2 : ps.all Ex.flat = true) (h : H6b cs ps N M X) (ro : Option Nat) {tm0 : Array Value} {H0 : CH} (hk : H0.length = 10) (hst : Restate 10 tm0 H0 (absT (tmL 250 (s6b cs ps N M X t s t2 s2 ex e2).live0)) (heapL ((s6b cs ps N M X t s t2 s2 ex e2).hp0.map (·.1)))) :
    Sound Tryz.prog 6 (.code (.region 6 O6 true) ro tm0 H0 []) (.ex .normal (absT (tm6b cs ps N M X t s t2 s2 ex e2)) (h6b cs ps N M X t s t2 s2 ex e2) []) := by
  have ho := ord6b (t := t) (s := s) (t2 := t2) (s2 := s2) (ex := ex) (e2 := e2) f1 f2 h
  have hp := pad6b cs ps N M X t s t2 s2 ex e2
  have hz := zero6b cs ps N M X t s t2 s2 ex e2
  have h0 := goodY_zero O6
  unfold tm6b h6b
  rw [← end6b]
  rw [← hz] at hst
  generalize s6b cs ps N M X t s t2 s2 ex e2 = s at *
  rw [← hk] at ho hst
  exact orders_sound2 (tmS := fun m => absT (tmL 250 (s.live (bitsL O6.size m)))) (HS := fun m => heapL (s.hp (bitsL O6.size m))) (mF := 2 ^ O6.size - 1) (qS_selfSound (tabW_sound (tsP false))) mix5 ho (by rw [hk]; decide) h0 hp hst ro
end
section
variable (cs ps : List Value) (N M : Nat) (X : Int) (t s t2 s2 : Nat) (ex e2 : Bool)
noncomputable def L6b (L : LTab) : LTab := regE L 12 6 250 10 O6 (s6b cs ps N M X t s t2 s2 ex e2).live0 (s6b cs ps N M X t s t2 s2 ex e2).hp0 (.leaf (.ex .normal (tm6b cs ps N M X t s t2 s2 ex e2) (h6b cs ps N M X t s t2 s2 ex e2) []))
theorem ls6b {L : LTab} (hL : LSound Tryz.prog 6 L) (f1 : cs.all Ex.flat = true) (f2 : ps.all Ex.flat = true) (h : H6b cs ps N M X) : LSound Tryz.prog 6 (L6b cs ps N M X t s t2 s2 ex e2 L) := by
  refine LSound.region hL (by kernel_rfl) (hp6b_flat f1 f2) fun r hr ro tm0 H0 hk hst => ?_
  cases hr
  exact snd6b f1 f2 h ro hk hst
end
end Go.Proofs.YtafpmehhdcmllaaGreatDoor.Ways
set_option maxRecDepth 10000
noncomputable section
namespace Go.Proofs.YtafpmehhdcmllaaGreatDoor.Ways
open Go Go.Ex Go.RowKit
/-! ### MarketBooks: the law's region 5, no rows at all -/
section
variable (cs ps : List Value) (N M : Nat) (X : Int) (t s t2 s2 : Nat) (ex e2 : Bool)
noncomputable def hp5y : List (CO × Bool) := hpY cs ps t s t2 s2 ex e2
noncomputable def s5y : SymS where
  live0 := [(0, sl 4 0 N N), (1, sl 5 0 M M), (6, b_ false), (7, i X), (8, pt 6 0), (9, i 0)]
  S := [(52, 0, sl 4 0 N N), (53, 1, i X), (54, 2, sl 4 0 X.toNat N), (55, 3, .slice none 0 0), (56, 4, sl 5 0 M M), (57, 5, i X), (58, 6, sl 5 0 X.toNat M), (59, 7, .slice none 0 0),
    (60, 8, tp [agT (zQ6), i 0]), (51, 9, tp [agT (zQ6), i 0]), (61, 10, agT (zQ6)), (62, 11, i 0), (10, 12, pt 7 0), (11, 14, i 0)]
  hp0 := hp5y cs ps t s t2 s2 ex e2
  A := [(12, .cells [i 0, i 0, i 0, i 0, i 0] 86 1 true, 13, .cells (tot (zQ6)) 86 1 true)]
noncomputable def cd5y (j : Nat) : List Bool := match j with
  | 2 => [leF 0 0 && (leF 0 X && leF X N)]
  | 3 => [tru (CzO k5 5 (0) cs X.toNat N)]
  | 6 => [leF 0 0 && (leF 0 X && leF X M)]
  | 7 => [tru (CzO k3 3 (0) ps X.toNat M)]
  | _ => []
end
def rho5y (j : Nat) : List Nat := match j with
  | 12 => (List.range 8).set 7 8
  | _ => List.range 8
def len5y (j : Nat) : Nat := cond (Nat.beq j 12) 9 8
def ans5y (j : Nat) : List Bool := match j with
  | 2 => [true]
  | 3 => [true]
  | 6 => [true]
  | 7 => [true]
  | _ => []
section
variable (cs ps : List Value) (N M : Nat) (X : Int) (t s t2 s2 : Nat) (ex e2 : Bool)
theorem fix5y : ∀ B : List Bool, B.length = O5.size → (List.range O5.size).map (fun j => outV (tabW (CPz)) Tryz.prog 6 (CPz) 12 O5 250 (s5y cs ps N M X t s t2 s2 ex e2) (forceN O5.size (preN O5) j B) j) = (List.range O5.size).map fun j => (outV (tabW (CPz)) Tryz.prog 6 (CPz) 12 O5 250 (s5y cs ps N M X t s t2 s2 ex e2) (forceN O5.size (preN O5) j B) j).fix
  | [x0, x1, x2, x3, x4, x5, x6, x7, x8, x9, x10, x11, x12, x13, x14], _ => by kernel_rfl
theorem obs5y : ∀ B : List Bool, B.length = O5.size → (List.range O5.size).map (fun j => obsV (tabW (CPz)) Tryz.prog 6 (CPz) 12 O5 250 (s5y cs ps N M X t s t2 s2 ex e2) rho5y ans5y (forceN O5.size (preN O5) j B) j) = (List.range O5.size).map fun j => expY 250 (s5y cs ps N M X t s t2 s2 ex e2) rho5y (cd5y cs ps N M X) len5y (forceN O5.size (preN O5) j B) j
  | [x0, x1, x2, x3, x4, x5, x6, x7, x8, x9, x10, x11, x12, x13, x14], _ => by kernel_rfl
end
section
variable {cs ps : List Value} {N M : Nat} {X : Int} {t s t2 s2 : Nat} {ex e2 : Bool}
theorem hp5y_flat (f1 : cs.all Ex.flat = true) (f2 : ps.all Ex.flat = true) : ∀ o, (o, true) ∈ hp5y cs ps t s t2 s2 ex e2 → FlatO o := by
  intro o ho
  simp [hp5y, hpY] at ho
  rcases ho with rfl | rfl | rfl
  · exact fun x hx => List.all_eq_true.1 f1 x hx
  · exact fun x hx => List.all_eq_true.1 f2 x hx
  · exact fun x hx => List.all_eq_true.1 (by rfl) x hx
/-- what must hold -/
def H5y (cs ps : List Value) (N M : Nat) (X : Int) : Prop := 0 ≤ X ∧ X ≤ N ∧ X ≤ M ∧ CzO k5 5 (0) cs X.toNat N ∧ CzO k3 3 (0) ps X.toNat M
theorem cd5y_ok (h : H5y cs ps N M X) : ∀ j, cd5y cs ps N M X j = (ans5y j).take (cd5y cs ps N M X j).length := by
  obtain ⟨h1, h2, h3, h4, h5⟩ := h
  have e : ∀ K : Nat, X ≤ K → (leF 0 0 && (leF 0 X && leF X K)) = true := fun K hK => by
    rw [leF_eq, leF_eq, leF_eq, decide_eq_true h1, decide_eq_true hK]; rfl
  intro j
  unfold cd5y ans5y
  split
  · rw [e N h2]; rfl
  · rw [tru_iff.2 h4]; rfl
  · rw [e M h3]; rfl
  · rw [tru_iff.2 h5]; rfl
  · rfl
theorem ord5y (f1 : cs.all Ex.flat = true) (f2 : ps.all Ex.flat = true) (h : H5y cs ps N M X) : Orders (selfA (qS (tabW (CPz)))) Tryz.prog 6 O5 7 (fun m => m < 2 ^ O5.size ∧ GoodY O5 (bitsL O5.size m)) (fun m => absT (tmL 250 ((s5y cs ps N M X t s t2 s2 ex e2).live (bitsL O5.size m)))) (fun m => heapL ((s5y cs ps N M X t s t2 s2 ex e2).hp (bitsL O5.size m))) (2 ^ O5.size - 1) :=
  sym_ofW (fix5y cs ps N M X t s t2 s2 ex e2) (obs5y cs ps N M X t s t2 s2 ex e2) (cd5y_ok h) (by kernel_rfl) (by kernel_rfl) (by kernel_rfl) (by kernel_rfl) (by kernel_rfl) (hp5y_flat f1 f2)
    (fun q hq => by
      simp only [s5y, List.mem_cons, List.not_mem_nil, or_false] at hq
      subst hq
      exact ⟨fun x hx => List.all_eq_true.1 (by rfl) x hx, fun x hx => List.all_eq_true.1 (by rfl) x hx⟩)
end
section
variable (cs ps : List Value) (N M : Nat) (X : Int) (t s t2 s2 : Nat) (ex e2 : Bool)
noncomputable def tm5y : TM := tmL 250 ((s5y cs ps N M X t s t2 s2 ex e2).live (List.replicate 15 true))
noncomputable def h5y : CH := heapL ((s5y cs ps N M X t s t2 s2 ex e2).hp (List.replicate 15 true))
theorem end5y : bitsL O5.size (2 ^ O5.size - 1) = List.replicate 15 true := by kernel_rfl
theorem pad5y : heapL ((s5y cs ps N M X t s t2 s2 ex e2).hp (bitsL O5.size 0)) = heapL ((s5y cs ps N M X t s t2 s2 ex e2).hp0.map (·.1) ++ List.replicate 1 .dead) := by kernel_rfl
theorem zero5y : tmL 250 ((s5y cs ps N M X t s t2 s2 ex e2).live (bitsL O5.size 0)) = tmL 250 (s5y cs ps N M X t s t2 s2 ex e2).live0 := by kernel_rfl
variable {cs ps N M X t s t2 s2 ex e2}
theorem snd5y (f1 : cs.all Ex.flat = true) (f2 : ps.all Ex.flat = true) (h : H5y cs ps N M X) (ro : Option Nat) {tm0 : Array Value} {H0 : CH} (hk : H0.length = 7) (hst : Restate 7 tm0 H0 (absT (tmL 250 (s5y cs ps N M X t s t2 s2 ex e2).live0)) (heapL ((s5y cs ps N M X t s t2 s2 ex e2).hp0.map (·.1)))) :
    Sound Tryz.prog 6 (.code (.region 5 O5 true) ro tm0 H0 []) (.ex .normal (absT (tm5y cs ps N M X t s t2 s2 ex e2)) (h5y cs ps N M X t s t2 s2 ex e2) []) := by
  have ho := ord5y (t := t) (s := s) (t2 := t2) (s2 := s2) (ex := ex) (e2 := e2) f1 f2 h
  have hp := pad5y cs ps N M X t s t2 s2 ex e2
  have hz := zero5y cs ps N M X t s t2 s2 ex e2
  have h0 := goodY_zero O5
  unfold tm5y h5y
  rw [← end5y]
  rw [← hz] at hst
  generalize s5y cs ps N M X t s t2 s2 ex e2 = s at *
  rw [← hk] at ho hst
  exact orders_sound2 (tmS := fun m => absT (tmL 250 (s.live (bitsL O5.size m)))) (HS := fun m => heapL (s.hp (bitsL O5.size m))) (mF := 2 ^ O5.size - 1) (qS_selfSound (tabW_sound (tsPz))) mix5 ho (by rw [hk]; decide) h0 hp hst ro
end
section
variable (cs ps : List Value) (N M : Nat) (X : Int) (t s t2 s2 : Nat) (ex e2 : Bool)
noncomputable def L5y (L : LTab) : LTab := regE L 12 5 250 7 O5 (s5y cs ps N M X t s t2 s2 ex e2).live0 (s5y cs ps N M X t s t2 s2 ex e2).hp0 (.leaf (.ex .normal (tm5y cs ps N M X t s t2 s2 ex e2) (h5y cs ps N M X t s t2 s2 ex e2) []))
theorem ls5y {L : LTab} (hL : LSound Tryz.prog 6 L) (f1 : cs.all Ex.flat = true) (f2 : ps.all Ex.flat = true) (h : H5y cs ps N M X) : LSound Tryz.prog 6 (L5y cs ps N M X t s t2 s2 ex e2 L) := by
  refine LSound.region hL (by kernel_rfl) (hp5y_flat f1 f2) fun r hr ro tm0 H0 hk hst => ?_
  cases hr
  exact snd5y f1 f2 h ro hk hst
end
end Go.Proofs.YtafpmehhdcmllaaGreatDoor.Ways
set_option maxRecDepth 10000
noncomputable section
namespace Go.Proofs.YtafpmehhdcmllaaGreatDoor.Ways
open Go Go.Ex Go.RowKit
/-! ### MarketBooks: the law's region 6, no rows at all -/
section
variable (cs ps : List Value) (N M : Nat) (X : Int) (t s t2 s2 : Nat) (ex e2 : Bool)
noncomputable def hp6y : List (CO × Bool) := hpY cs ps t s t2 s2 ex e2 ++ [(.cells (tot zQ6) 86 1 true, true)]
noncomputable def s6y : SymS where
  live0 := [(0, sl 4 0 N N), (1, sl 5 0 M M), (6, b_ false), (7, i X), (8, pt 6 0), (9, i 0), (10, pt 7 0), (11, i 0)]
  S := [(64, 0, sl 4 0 N N), (65, 1, i X), (66, 2, sl 4 (0 + X.toNat * 5) (N - X.toNat) (N - X.toNat)), (67, 3, .slice none 0 0), (68, 4, sl 5 0 M M), (69, 5, i X), (70, 6, sl 5 (0 + X.toNat * 3) (M - X.toNat) (M - X.toNat)), (71, 7, .slice none 0 0),
    (72, 8, tp [agT (zQ6), i 0]), (63, 9, tp [agT (zQ6), i 0]), (73, 10, agT (zQ6)), (74, 11, i 0), (12, 12, pt 8 0), (13, 14, i 0)]
  hp0 := hp6y cs ps t s t2 s2 ex e2
  A := [(12, .cells [i 0, i 0, i 0, i 0, i 0] 86 1 true, 13, .cells (tot (zQ6)) 86 1 true)]
noncomputable def cd6y (j : Nat) : List Bool := match j with
  | 2 => [leF 0 X && (leF X N && leF N N)]
  | 3 => [tru (CzO k5 5 (0 + X.toNat * 5) cs (N - X.toNat) (N - X.toNat))]
  | 6 => [leF 0 X && (leF X M && leF M M)]
  | 7 => [tru (CzO k3 3 (0 + X.toNat * 3) ps (M - X.toNat) (M - X.toNat))]
  | _ => []
end
def rho6y (j : Nat) : List Nat := match j with
  | 12 => (List.range 9).set 8 9
  | _ => List.range 9
def len6y (j : Nat) : Nat := cond (Nat.beq j 12) 10 9
def ans6y (j : Nat) : List Bool := match j with
  | 2 => [true]
  | 3 => [true]
  | 6 => [true]
  | 7 => [true]
  | _ => []
section
variable (cs ps : List Value) (N M : Nat) (X : Int) (t s t2 s2 : Nat) (ex e2 : Bool)
theorem fix6y : ∀ B : List Bool, B.length = O6.size → (List.range O6.size).map (fun j => outV (tabW (CPz)) Tryz.prog 6 (CPz) 12 O6 250 (s6y cs ps N M X t s t2 s2 ex e2) (forceN O6.size (preN O6) j B) j) = (List.range O6.size).map fun j => (outV (tabW (CPz)) Tryz.prog 6 (CPz) 12 O6 250 (s6y cs ps N M X t s t2 s2 ex e2) (forceN O6.size (preN O6) j B) j).fix
  | [x0, x1, x2, x3, x4, x5, x6, x7, x8, x9, x10, x11, x12, x13, x14], _ => by kernel_rfl
theorem obs6y : ∀ B : List Bool, B.length = O6.size → (List.range O6.size).map (fun j => obsV (tabW (CPz)) Tryz.prog 6 (CPz) 12 O6 250 (s6y cs ps N M X t s t2 s2 ex e2) rho6y ans6y (forceN O6.size (preN O6) j B) j) = (List.range O6.size).map fun j => expY 250 (s6y cs ps N M X t s t2 s2 ex e2) rho6y (cd6y cs ps N M X) len6y (forceN O6.size (preN O6) j B) j
  | [x0, x1, x2, x3, x4, x5, x6, x7, x8, x9, x10, x11, x12, x13, x14], _ => by kernel_rfl
end
section
variable {cs ps : List Value} {N M : Nat} {X : Int} {t s t2 s2 : Nat} {ex e2 : Bool}
theorem hp6y_flat (f1 : cs.all Ex.flat = true) (f2 : ps.all Ex.flat = true) : ∀ o, (o, true) ∈ hp6y cs ps t s t2 s2 ex e2 → FlatO o := by
  intro o ho
  simp [hp6y, hpY] at ho
  rcases ho with rfl | rfl | rfl
  · exact fun x hx => List.all_eq_true.1 f1 x hx
  · exact fun x hx => List.all_eq_true.1 f2 x hx
  · exact fun x hx => List.all_eq_true.1 (by rfl) x hx
/-- what must hold -/
def H6y (cs ps : List Value) (N M : Nat) (X : Int) : Prop := 0 ≤ X ∧ X ≤ N ∧ X ≤ M ∧ CzO k5 5 (0 + X.toNat * 5) cs (N - X.toNat) (N - X.toNat) ∧ CzO k3 3 (0 + X.toNat * 3) ps (M - X.toNat) (M - X.toNat)
theorem cd6y_ok (h : H6y cs ps N M X) : ∀ j, cd6y cs ps N M X j = (ans6y j).take (cd6y cs ps N M X j).length := by
  obtain ⟨h1, h2, h3, h4, h5⟩ := h
  have e : ∀ K : Nat, X ≤ K → (leF 0 X && (leF X K && leF K K)) = true := fun K hK => by
    rw [leF_eq, leF_eq, leF_eq, decide_eq_true h1, decide_eq_true hK, decide_eq_true (show (K : Int) ≤ K from Int.le_refl _)]; rfl
  intro j
  unfold cd6y ans6y
  split
  · rw [e N h2]; rfl
  · rw [tru_iff.2 h4]; rfl
  · rw [e M h3]; rfl
  · rw [tru_iff.2 h5]; rfl
  · rfl
theorem ord6y (f1 : cs.all Ex.flat = true) (f2 : ps.all Ex.flat = true) (h : H6y cs ps N M X) : Orders (selfA (qS (tabW (CPz)))) Tryz.prog 6 O6 8 (fun m => m < 2 ^ O6.size ∧ GoodY O6 (bitsL O6.size m)) (fun m => absT (tmL 250 ((s6y cs ps N M X t s t2 s2 ex e2).live (bitsL O6.size m)))) (fun m => heapL ((s6y cs ps N M X t s t2 s2 ex e2).hp (bitsL O6.size m))) (2 ^ O6.size - 1) :=
  sym_ofW (fix6y cs ps N M X t s t2 s2 ex e2) (obs6y cs ps N M X t s t2 s2 ex e2) (cd6y_ok h) (by kernel_rfl) (by kernel_rfl) (by kernel_rfl) (by kernel_rfl) (by kernel_rfl) (hp6y_flat f1 f2)
    (fun q hq => by
      simp only [s6y, List.mem_cons, List.not_mem_nil, or_false] at hq
      subst hq
      exact ⟨fun x hx => List.all_eq_true.1 (by rfl) x hx, fun x hx => List.all_eq_true.1 (by rfl) x hx⟩)
end
section
variable (cs ps : List Value) (N M : Nat) (X : Int) (t s t2 s2 : Nat) (ex e2 : Bool)
noncomputable def tm6y : TM := tmL 250 ((s6y cs ps N M X t s t2 s2 ex e2).live (List.replicate 15 true))
noncomputable def h6y : CH := heapL ((s6y cs ps N M X t s t2 s2 ex e2).hp (List.replicate 15 true))
theorem end6y : bitsL O6.size (2 ^ O6.size - 1) = List.replicate 15 true := by kernel_rfl
theorem pad6y : heapL ((s6y cs ps N M X t s t2 s2 ex e2).hp (bitsL O6.size 0)) = heapL ((s6y cs ps N M X t s t2 s2 ex e2).hp0.map (·.1) ++ List.replicate 1 .dead) := by kernel_rfl
theorem zero6y : tmL 250 ((s6y cs ps N M X t s t2 s2 ex e2).live (bitsL O6.size 0)) = tmL 250 (s6y cs ps N M X t s t2 s2 ex e2).live0 := by kernel_rfl
variable {cs ps N M X t s t2 s2 ex e2}
theorem snd6y (f1 : cs.all Ex.flat = true) (f2 : ps.all Ex.flat = true) (h : H6y cs ps N M X) (ro : Option Nat) {tm0 : Array Value} {H0 : CH} (hk : H0.length = 8) (hst : Restate 8 tm0 H0 (absT (tmL 250 (s6y cs ps N M X t s t2 s2 ex e2).live0)) (heapL ((s6y cs ps N M X t s t2 s2 ex e2).hp0.map (·.1)))) :
    Sound Tryz.prog 6 (.code (.region 6 O6 true) ro tm0 H0 []) (.ex .normal (absT (tm6y cs ps N M X t s t2 s2 ex e2)) (h6y cs ps N M X t s t2 s2 ex e2) []) := by
  have ho := ord6y (t := t) (s := s) (t2 := t2) (s2 := s2) (ex := ex) (e2 := e2) f1 f2 h
  have hp := pad6y cs ps N M X t s t2 s2 ex e2
  have hz := zero6y cs ps N M X t s t2 s2 ex e2
  have h0 := goodY_zero O6
  unfold tm6y h6y
  rw [← end6y]
  rw [← hz] at hst
  generalize s6y cs ps N M X t s t2 s2 ex e2 = s at *
  rw [← hk] at ho hst
  exact orders_sound2 (tmS := fun m => absT (tmL 250 (s.live (bitsL O6.size m)))) (HS := fun m => heapL (s.hp (bitsL O6.size m))) (mF := 2 ^ O6.size - 1) (qS_selfSound (tabW_sound (tsPz))) mix5 ho (by rw [hk]; decide) h0 hp hst ro
end
section
variable (cs ps : List Value) (N M : Nat) (X : Int) (t s t2 s2 : Nat) (ex e2 : Bool)
noncomputable def L6y (L : LTab) : LTab := regE L 12 6 250 8 O6 (s6y cs ps N M X t s t2 s2 ex e2).live0 (s6y cs ps N M X t s t2 s2 ex e2).hp0 (.leaf (.ex .normal (tm6y cs ps N M X t s t2 s2 ex e2) (h6y cs ps N M X t s t2 s2 ex e2) []))
theorem ls6y {L : LTab} (hL : LSound Tryz.prog 6 L) (f1 : cs.all Ex.flat = true) (f2 : ps.all Ex.flat = true) (h : H6y cs ps N M X) : LSound Tryz.prog 6 (L6y cs ps N M X t s t2 s2 ex e2 L) := by
  refine LSound.region hL (by kernel_rfl) (hp6y_flat f1 f2) fun r hr ro tm0 H0 hk hst => ?_
  cases hr
  exact snd6y f1 f2 h ro hk hst
end
end Go.Proofs.YtafpmehhdcmllaaGreatDoor.Ways
