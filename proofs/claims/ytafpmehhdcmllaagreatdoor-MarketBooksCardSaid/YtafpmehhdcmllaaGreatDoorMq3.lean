import Derived.Test.YtafpmehhdcmllaaGreatDoorMq1
set_option maxRecDepth 10000
noncomputable section
namespace Go.Proofs.YtafpmehhdcmllaaGreatDoor.Ways
open Go Go.Ex Go.RowKit
/-! ### MarketBooks: the loop's region 15, the rows settled in block 17 -/
section
variable (cs ps rs : List Value) (N M : Nat) (j am dv av : Int) (tq : Q6) (t s t2 s2 : Nat) (ex e2 : Bool)
noncomputable def hpBa : List (CO × Bool) := [(.dead, false), (.cells pow10 287 1 true, false), (.cells tab32 289 1 true, false), (.cells tab64 290 1 true, false), (.cells cs t s ex, true), (.cells ps t2 s2 e2, true), (.dead, false), (.dead, false), (.cells (tot tq) 86 1 true, true), (.dead, false), (.dead, false), (.dead, false), (.dead, false), (.dead, false), (.dead, false), (.dead, false), (.dead, false), (.cells rs 132 2 true, true)]
def liBa : List (Nat × Value) := [(0, sl 4 0 N N), (1, sl 5 0 M M), (6, b_ false), (8, pt 8 0), (14, sl 17 0 N N), (16, i am), (17, i dv), (18, i av), (128, sl 4 0 N N), (129, i N), (130, i j)]
noncomputable def hpRa : List (CO × Bool) := hpBa cs ps rs tq t s t2 s2 ex e2 ++ [(.cells (row5 cs j) 73 1 true, true)]
noncomputable def sRa : SymS where
  live0 := liBa N M j am dv av ++ [(19, i j), (20, pt 18 0)]
  S := [(153, 0, ag (row5 cs j)), (154, 1, sl 5 0 M M), (155, 2, i j), (156, 3, pt 5 (0 + j.toNat * 3)), (157, 4, ag (row3 ps j)), (21, 5, pt 19 0), (22, 6, pt 20 0)]
  hp0 := hpRa cs ps rs j tq t s t2 s2 ex e2
  A := [(5, .cells [i 0, i 0, i 0, i 0, i 0] 73 1 true, 7, .cells (row5 cs j) 73 1 true), (6, .cells [i 0, i 0, i 0] 24 1 true, 8, .cells (row3 ps j) 24 1 true)]
end
def rhoRa (k : Nat) : List Nat := match k with
  | 5 => (List.range 21).set 19 21
  | 6 => (List.range 21).set 20 21
  | _ => List.range 21
def lenRa (k : Nat) : Nat := cond (Nat.beq k 5 || Nat.beq k 6) 22 21
section
variable (cs ps rs : List Value) (N M : Nat) (j am dv av : Int) (tq : Q6) (t s t2 s2 : Nat) (ex e2 : Bool)
theorem fixRa : ∀ B : List Bool, B.length = O15.size → (List.range O15.size).map (fun k => outV noW Tryz.prog 6 C15 12 O15 250 (sRa cs ps rs N M j am dv av tq t s t2 s2 ex e2) (forceN O15.size (preN O15) k B) k) = (List.range O15.size).map fun k => (outV noW Tryz.prog 6 C15 12 O15 250 (sRa cs ps rs N M j am dv av tq t s t2 s2 ex e2) (forceN O15.size (preN O15) k B) k).fix
  | [x0, x1, x2, x3, x4, x5, x6, x7, x8], _ => by kernel_rfl
theorem obsRa : ∀ B : List Bool, B.length = O15.size → (List.range O15.size).map (fun k => obsV noW Tryz.prog 6 C15 12 O15 250 (sRa cs ps rs N M j am dv av tq t s t2 s2 ex e2) rhoRa ansR (forceN O15.size (preN O15) k B) k) = (List.range O15.size).map fun k => expY 250 (sRa cs ps rs N M j am dv av tq t s t2 s2 ex e2) rhoRa (cdR ps M j) lenRa (forceN O15.size (preN O15) k B) k
  | [x0, x1, x2, x3, x4, x5, x6, x7, x8], _ => by kernel_rfl
end
section
variable {cs ps rs : List Value} {N M : Nat} {j am dv av : Int} {tq : Q6} {t s t2 s2 : Nat} {ex e2 : Bool}
theorem hpBa_flat (f1 : cs.all Ex.flat = true) (f2 : ps.all Ex.flat = true) (f3 : rs.all Ex.flat = true) : ∀ o, (o, true) ∈ hpBa cs ps rs tq t s t2 s2 ex e2 → FlatO o := by
  intro o ho
  simp [hpBa] at ho
  rcases ho with rfl | rfl | rfl | rfl
  · exact fun x hx => List.all_eq_true.1 f1 x hx
  · exact fun x hx => List.all_eq_true.1 f2 x hx
  · exact fun x hx => List.all_eq_true.1 (by rfl) x hx
  · exact fun x hx => List.all_eq_true.1 f3 x hx
theorem hpRa_flat (f1 : cs.all Ex.flat = true) (f2 : ps.all Ex.flat = true) (f3 : rs.all Ex.flat = true) : ∀ o, (o, true) ∈ hpRa cs ps rs j tq t s t2 s2 ex e2 → FlatO o := by
  intro o ho
  unfold hpRa at ho
  rcases List.mem_append.1 ho with h | h
  · exact hpBa_flat f1 f2 f3 o h
  · simp at h
    subst h
    exact fun x hx => List.all_eq_true.1 (by rfl) x hx
theorem ordRa (f1 : cs.all Ex.flat = true) (f2 : ps.all Ex.flat = true) (f3 : rs.all Ex.flat = true) (h : okR15 ps M j = true) : Orders (selfA (qS noW)) Tryz.prog 6 O15 19 (fun m => m < 2 ^ O15.size ∧ GoodY O15 (bitsL O15.size m)) (fun m => absT (tmL 250 ((sRa cs ps rs N M j am dv av tq t s t2 s2 ex e2).live (bitsL O15.size m)))) (fun m => heapL ((sRa cs ps rs N M j am dv av tq t s t2 s2 ex e2).hp (bitsL O15.size m))) (2 ^ O15.size - 1) :=
  sym_ofW (fixRa cs ps rs N M j am dv av tq t s t2 s2 ex e2) (obsRa cs ps rs N M j am dv av tq t s t2 s2 ex e2) (cdR_ok h) (by kernel_rfl) (by kernel_rfl) (by kernel_rfl) (by kernel_rfl) (by kernel_rfl) (hpRa_flat f1 f2 f3)
    (fun q hq => by
      simp only [sRa, List.mem_cons, List.not_mem_nil, or_false] at hq
      rcases hq with rfl | rfl
      · exact ⟨fun x hx => List.all_eq_true.1 (by rfl) x hx, fun x hx => List.all_eq_true.1 (by rfl) x hx⟩
      · exact ⟨fun x hx => List.all_eq_true.1 (by rfl) x hx, fun x hx => List.all_eq_true.1 (by rfl) x hx⟩)
end
section
variable (cs ps rs : List Value) (N M : Nat) (j am dv av : Int) (tq : Q6) (t s t2 s2 : Nat) (ex e2 : Bool)
noncomputable def tmRa : TM := tmL 250 ((sRa cs ps rs N M j am dv av tq t s t2 s2 ex e2).live (List.replicate 9 true))
noncomputable def hRa : CH := heapL ((sRa cs ps rs N M j am dv av tq t s t2 s2 ex e2).hp (List.replicate 9 true))
theorem padRa : heapL ((sRa cs ps rs N M j am dv av tq t s t2 s2 ex e2).hp (bitsL O15.size 0)) = heapL ((sRa cs ps rs N M j am dv av tq t s t2 s2 ex e2).hp0.map (·.1) ++ List.replicate 2 .dead) := by kernel_rfl
theorem zeroRa : tmL 250 ((sRa cs ps rs N M j am dv av tq t s t2 s2 ex e2).live (bitsL O15.size 0)) = tmL 250 (sRa cs ps rs N M j am dv av tq t s t2 s2 ex e2).live0 := by kernel_rfl
variable {cs ps rs N M j am dv av tq t s t2 s2 ex e2}
theorem sndRa (f1 : cs.all Ex.flat = true) (f2 : ps.all Ex.flat = true) (f3 : rs.all Ex.flat = true) (h : okR15 ps M j = true) (ro : Option Nat) {tm0 : Array Value} {H0 : CH} (hk : H0.length = 19) (hst : Restate 19 tm0 H0 (absT (tmL 250 (sRa cs ps rs N M j am dv av tq t s t2 s2 ex e2).live0)) (heapL ((sRa cs ps rs N M j am dv av tq t s t2 s2 ex e2).hp0.map (·.1)))) :
    Sound Tryz.prog 6 (.code (.region 15 O15 true) ro tm0 H0 []) (.ex .normal (absT (tmRa cs ps rs N M j am dv av tq t s t2 s2 ex e2)) (hRa cs ps rs N M j am dv av tq t s t2 s2 ex e2) []) := by
  have ho := ordRa (N := N) (am := am) (dv := dv) (av := av) (tq := tq) (t := t) (s := s) (t2 := t2) (s2 := s2) (ex := ex) (e2 := e2) f1 f2 f3 h
  have hp := padRa cs ps rs N M j am dv av tq t s t2 s2 ex e2
  have hz := zeroRa cs ps rs N M j am dv av tq t s t2 s2 ex e2
  have h0 := goodY_zero O15
  unfold tmRa hRa
  rw [← end15]
  rw [← hz] at hst
  generalize sRa cs ps rs N M j am dv av tq t s t2 s2 ex e2 = s at *
  rw [← hk] at ho hst
  exact orders_sound2 (tmS := fun m => absT (tmL 250 (s.live (bitsL O15.size m)))) (HS := fun m => heapL (s.hp (bitsL O15.size m))) (mF := 2 ^ O15.size - 1) (qS_selfSound noW_sound) mix5 ho (by rw [hk]; decide) h0 hp hst ro
end
section
variable (cs ps rs : List Value) (N M : Nat) (j am dv av : Int) (tq : Q6) (t s t2 s2 : Nat) (ex e2 : Bool)
noncomputable def LRa (L : LTab) : LTab := regE L 12 15 250 19 O15 (sRa cs ps rs N M j am dv av tq t s t2 s2 ex e2).live0 (sRa cs ps rs N M j am dv av tq t s t2 s2 ex e2).hp0 (.br (okR15 ps M j) (.leaf (.ex .normal (tmRa cs ps rs N M j am dv av tq t s t2 s2 ex e2) (hRa cs ps rs N M j am dv av tq t s t2 s2 ex e2) [])) .fail)
theorem lsRa {L : LTab} (hL : LSound Tryz.prog 6 L) (f1 : cs.all Ex.flat = true) (f2 : ps.all Ex.flat = true) (f3 : rs.all Ex.flat = true) : LSound Tryz.prog 6 (LRa cs ps rs N M j am dv av tq t s t2 s2 ex e2 L) := by
  refine LSound.region hL (by kernel_rfl) (hpRa_flat f1 f2 f3) fun r hr ro tm0 H0 hk hst => ?_
  cases h : okR15 ps M j with
  | false => rw [h] at hr; cases hr
  | true =>
    rw [h] at hr
    cases hr
    exact sndRa f1 f2 f3 h ro hk hst
end
end Go.Proofs.YtafpmehhdcmllaaGreatDoor.Ways
set_option maxRecDepth 10000
noncomputable section
namespace Go.Proofs.YtafpmehhdcmllaaGreatDoor.Ways
open Go Go.Ex Go.RowKit
/-! ### MarketBooks: the loop's region 15, the rows settled in block 15 -/
section
variable (cs ps rs : List Value) (N M : Nat) (j am dv av : Int) (tq : Q6) (t s t2 s2 : Nat) (ex e2 : Bool)
noncomputable def hpBb : List (CO × Bool) := [(.dead, false), (.cells pow10 287 1 true, false), (.cells tab32 289 1 true, false), (.cells tab64 290 1 true, false), (.cells cs t s ex, true), (.cells ps t2 s2 e2, true), (.dead, false), (.dead, false), (.cells (tot tq) 86 1 true, true), (.dead, false), (.dead, false), (.dead, false), (.dead, false), (.dead, false), (.dead, false), (.cells rs 132 2 true, true)]
def liBb : List (Nat × Value) := [(0, sl 4 0 N N), (1, sl 5 0 M M), (6, b_ false), (8, pt 8 0), (14, sl 15 0 N N), (16, i am), (17, i dv), (18, i av), (128, sl 4 0 N N), (129, i N), (130, i j)]
noncomputable def hpRb : List (CO × Bool) := hpBb cs ps rs tq t s t2 s2 ex e2 ++ [(.cells (row5 cs j) 73 1 true, true)]
noncomputable def sRb : SymS where
  live0 := liBb N M j am dv av ++ [(19, i j), (20, pt 16 0)]
  S := [(153, 0, ag (row5 cs j)), (154, 1, sl 5 0 M M), (155, 2, i j), (156, 3, pt 5 (0 + j.toNat * 3)), (157, 4, ag (row3 ps j)), (21, 5, pt 17 0), (22, 6, pt 18 0)]
  hp0 := hpRb cs ps rs j tq t s t2 s2 ex e2
  A := [(5, .cells [i 0, i 0, i 0, i 0, i 0] 73 1 true, 7, .cells (row5 cs j) 73 1 true), (6, .cells [i 0, i 0, i 0] 24 1 true, 8, .cells (row3 ps j) 24 1 true)]
end
def rhoRb (k : Nat) : List Nat := match k with
  | 5 => (List.range 19).set 17 19
  | 6 => (List.range 19).set 18 19
  | _ => List.range 19
def lenRb (k : Nat) : Nat := cond (Nat.beq k 5 || Nat.beq k 6) 20 19
section
variable (cs ps rs : List Value) (N M : Nat) (j am dv av : Int) (tq : Q6) (t s t2 s2 : Nat) (ex e2 : Bool)
theorem fixRb : ∀ B : List Bool, B.length = O15.size → (List.range O15.size).map (fun k => outV noW Tryz.prog 6 C15 12 O15 250 (sRb cs ps rs N M j am dv av tq t s t2 s2 ex e2) (forceN O15.size (preN O15) k B) k) = (List.range O15.size).map fun k => (outV noW Tryz.prog 6 C15 12 O15 250 (sRb cs ps rs N M j am dv av tq t s t2 s2 ex e2) (forceN O15.size (preN O15) k B) k).fix
  | [x0, x1, x2, x3, x4, x5, x6, x7, x8], _ => by kernel_rfl
theorem obsRb : ∀ B : List Bool, B.length = O15.size → (List.range O15.size).map (fun k => obsV noW Tryz.prog 6 C15 12 O15 250 (sRb cs ps rs N M j am dv av tq t s t2 s2 ex e2) rhoRb ansR (forceN O15.size (preN O15) k B) k) = (List.range O15.size).map fun k => expY 250 (sRb cs ps rs N M j am dv av tq t s t2 s2 ex e2) rhoRb (cdR ps M j) lenRb (forceN O15.size (preN O15) k B) k
  | [x0, x1, x2, x3, x4, x5, x6, x7, x8], _ => by kernel_rfl
end
section
variable {cs ps rs : List Value} {N M : Nat} {j am dv av : Int} {tq : Q6} {t s t2 s2 : Nat} {ex e2 : Bool}
theorem hpBb_flat (f1 : cs.all Ex.flat = true) (f2 : ps.all Ex.flat = true) (f3 : rs.all Ex.flat = true) : ∀ o, (o, true) ∈ hpBb cs ps rs tq t s t2 s2 ex e2 → FlatO o := by
  intro o ho
  simp [hpBb] at ho
  rcases ho with rfl | rfl | rfl | rfl
  · exact fun x hx => List.all_eq_true.1 f1 x hx
  · exact fun x hx => List.all_eq_true.1 f2 x hx
  · exact fun x hx => List.all_eq_true.1 (by rfl) x hx
  · exact fun x hx => List.all_eq_true.1 f3 x hx
theorem hpRb_flat (f1 : cs.all Ex.flat = true) (f2 : ps.all Ex.flat = true) (f3 : rs.all Ex.flat = true) : ∀ o, (o, true) ∈ hpRb cs ps rs j tq t s t2 s2 ex e2 → FlatO o := by
  intro o ho
  unfold hpRb at ho
  rcases List.mem_append.1 ho with h | h
  · exact hpBb_flat f1 f2 f3 o h
  · simp at h
    subst h
    exact fun x hx => List.all_eq_true.1 (by rfl) x hx
theorem ordRb (f1 : cs.all Ex.flat = true) (f2 : ps.all Ex.flat = true) (f3 : rs.all Ex.flat = true) (h : okR15 ps M j = true) : Orders (selfA (qS noW)) Tryz.prog 6 O15 17 (fun m => m < 2 ^ O15.size ∧ GoodY O15 (bitsL O15.size m)) (fun m => absT (tmL 250 ((sRb cs ps rs N M j am dv av tq t s t2 s2 ex e2).live (bitsL O15.size m)))) (fun m => heapL ((sRb cs ps rs N M j am dv av tq t s t2 s2 ex e2).hp (bitsL O15.size m))) (2 ^ O15.size - 1) :=
  sym_ofW (fixRb cs ps rs N M j am dv av tq t s t2 s2 ex e2) (obsRb cs ps rs N M j am dv av tq t s t2 s2 ex e2) (cdR_ok h) (by kernel_rfl) (by kernel_rfl) (by kernel_rfl) (by kernel_rfl) (by kernel_rfl) (hpRb_flat f1 f2 f3)
    (fun q hq => by
      simp only [sRb, List.mem_cons, List.not_mem_nil, or_false] at hq
      rcases hq with rfl | rfl
      · exact ⟨fun x hx => List.all_eq_true.1 (by rfl) x hx, fun x hx => List.all_eq_true.1 (by rfl) x hx⟩
      · exact ⟨fun x hx => List.all_eq_true.1 (by rfl) x hx, fun x hx => List.all_eq_true.1 (by rfl) x hx⟩)
end
section
variable (cs ps rs : List Value) (N M : Nat) (j am dv av : Int) (tq : Q6) (t s t2 s2 : Nat) (ex e2 : Bool)
noncomputable def tmRb : TM := tmL 250 ((sRb cs ps rs N M j am dv av tq t s t2 s2 ex e2).live (List.replicate 9 true))
noncomputable def hRb : CH := heapL ((sRb cs ps rs N M j am dv av tq t s t2 s2 ex e2).hp (List.replicate 9 true))
theorem padRb : heapL ((sRb cs ps rs N M j am dv av tq t s t2 s2 ex e2).hp (bitsL O15.size 0)) = heapL ((sRb cs ps rs N M j am dv av tq t s t2 s2 ex e2).hp0.map (·.1) ++ List.replicate 2 .dead) := by kernel_rfl
theorem zeroRb : tmL 250 ((sRb cs ps rs N M j am dv av tq t s t2 s2 ex e2).live (bitsL O15.size 0)) = tmL 250 (sRb cs ps rs N M j am dv av tq t s t2 s2 ex e2).live0 := by kernel_rfl
variable {cs ps rs N M j am dv av tq t s t2 s2 ex e2}
theorem sndRb (f1 : cs.all Ex.flat = true) (f2 : ps.all Ex.flat = true) (f3 : rs.all Ex.flat = true) (h : okR15 ps M j = true) (ro : Option Nat) {tm0 : Array Value} {H0 : CH} (hk : H0.length = 17) (hst : Restate 17 tm0 H0 (absT (tmL 250 (sRb cs ps rs N M j am dv av tq t s t2 s2 ex e2).live0)) (heapL ((sRb cs ps rs N M j am dv av tq t s t2 s2 ex e2).hp0.map (·.1)))) :
    Sound Tryz.prog 6 (.code (.region 15 O15 true) ro tm0 H0 []) (.ex .normal (absT (tmRb cs ps rs N M j am dv av tq t s t2 s2 ex e2)) (hRb cs ps rs N M j am dv av tq t s t2 s2 ex e2) []) := by
  have ho := ordRb (N := N) (am := am) (dv := dv) (av := av) (tq := tq) (t := t) (s := s) (t2 := t2) (s2 := s2) (ex := ex) (e2 := e2) f1 f2 f3 h
  have hp := padRb cs ps rs N M j am dv av tq t s t2 s2 ex e2
  have hz := zeroRb cs ps rs N M j am dv av tq t s t2 s2 ex e2
  have h0 := goodY_zero O15
  unfold tmRb hRb
  rw [← end15]
  rw [← hz] at hst
  generalize sRb cs ps rs N M j am dv av tq t s t2 s2 ex e2 = s at *
  rw [← hk] at ho hst
  exact orders_sound2 (tmS := fun m => absT (tmL 250 (s.live (bitsL O15.size m)))) (HS := fun m => heapL (s.hp (bitsL O15.size m))) (mF := 2 ^ O15.size - 1) (qS_selfSound noW_sound) mix5 ho (by rw [hk]; decide) h0 hp hst ro
end
section
variable (cs ps rs : List Value) (N M : Nat) (j am dv av : Int) (tq : Q6) (t s t2 s2 : Nat) (ex e2 : Bool)
noncomputable def LRb (L : LTab) : LTab := regE L 12 15 250 17 O15 (sRb cs ps rs N M j am dv av tq t s t2 s2 ex e2).live0 (sRb cs ps rs N M j am dv av tq t s t2 s2 ex e2).hp0 (.br (okR15 ps M j) (.leaf (.ex .normal (tmRb cs ps rs N M j am dv av tq t s t2 s2 ex e2) (hRb cs ps rs N M j am dv av tq t s t2 s2 ex e2) [])) .fail)
theorem lsRb {L : LTab} (hL : LSound Tryz.prog 6 L) (f1 : cs.all Ex.flat = true) (f2 : ps.all Ex.flat = true) (f3 : rs.all Ex.flat = true) : LSound Tryz.prog 6 (LRb cs ps rs N M j am dv av tq t s t2 s2 ex e2 L) := by
  refine LSound.region hL (by kernel_rfl) (hpRb_flat f1 f2 f3) fun r hr ro tm0 H0 hk hst => ?_
  cases h : okR15 ps M j with
  | false => rw [h] at hr; cases hr
  | true =>
    rw [h] at hr
    cases hr
    exact sndRb f1 f2 f3 h ro hk hst
end
end Go.Proofs.YtafpmehhdcmllaaGreatDoor.Ways
noncomputable section
namespace Go.Proofs.YtafpmehhdcmllaaGreatDoor.Ways
open Go Go.Ex Go.RowKit
/-! ### MarketBooks: the loop -/
noncomputable def T10 : Tb := ext (T9 true) 45 (pureE s45 [] Hd)
theorem ts10 {G : Nat} : TSound Tryz.prog G T10 := (ts9 true).pure hd_vars fun args v h => by
  unfold s45 at h
  split at h
  · cases h; exact p45 _ _ _ _ _ _ _ _
  · cases h
noncomputable def B12 : Code := bodyL Tryz.f12 12
noncomputable def sp12 : Nat → Nat → Split := at_ [(12, 131), (12, 166), (12, 186), (12, 189), (12, 198), (12, 207), (12, 216)] .bool no_
def sy12 : Nat → Nat → Bool := on_ [(12, 133), (12, 134), (12, 138), (12, 140), (12, 145), (12, 147), (12, 212), (12, 214)]
section
variable (cs ps rs : List Value) (N M : Nat) (tq : Q6) (t s t2 s2 : Nat) (ex e2 : Bool)
abbrev QL := Int × Int × Int × Int
/-- the loop's totals behind a row -/
def nxA (rs : List Value) (q : QL) : Int := wrapF .i64 (q.2.1 + ce 2 1 rs q.1.toNat)
def nxD (rs : List Value) (q : QL) : Int := wrapF .i64 (q.2.2.1 + ce 2 0 rs q.1.toNat)
def nxV (cs : List Value) (q : QL) : Int := wrapF .i64 (q.2.2.2 + ce 5 1 cs q.1.toNat)
/-- what the offer's own amount is compared with -/
def yoE (cs : List Value) (q : QL) : Int := wrapF .i64 (ce 5 4 cs q.1.toNat + ce 5 2 cs q.1.toNat)
def spE (cs ps : List Value) (q : QL) : Int := wrapF .i64 (ce 3 1 ps q.1.toNat * yoE cs q)
def qyE (cs : List Value) (q : QL) : Int := qcE (yoE cs q) (ce 5 1 cs q.1.toNat) (ce 5 2 cs q.1.toNat) (ce 5 3 cs q.1.toNat) (ce 5 4 cs q.1.toNat)
def exE (cs ps : List Value) (q : QL) : Int := amP (qyE cs q) (eP ps q.1.toNat) (rvP (ce 3 0 ps q.1.toNat) (ce 3 1 ps q.1.toNat) (ce 3 2 ps q.1.toNat) (yoE cs q) (enE (ce 5 2 cs q.1.toNat) (ce 5 4 cs q.1.toNat)))
def pyE (ps : List Value) (q : QL) : Int := pcE (ce 3 1 ps q.1.toNat) (ce 3 1 ps q.1.toNat) (ce 3 1 ps q.1.toNat)
def flE (cs ps : List Value) (q : QL) : Int := amP (eQ cs q.1.toNat) (pyE ps q) (rvP (ce 3 1 ps q.1.toNat) (ce 3 1 ps q.1.toNat) (ce 3 1 ps q.1.toNat) (ce 5 0 cs q.1.toNat) (enE (ce 5 2 cs q.1.toNat) (ce 5 4 cs q.1.toNat)))
def st12 (l1 l0 : Nat) (ρ : List Nat) (q : QL) : SS QL := .br (ltF q.1 N) (askS (bnd_ q.1 N N) <| askS (cR k5 5 cs q.1) <| askS (bnd_ q.1 N N) <| askS (isI rs (0 + q.1.toNat * 2 + 1)) <| askS (bnd_ q.1 N N) <| askS (isI rs (0 + q.1.toNat * 2 + 0)) <| askS (okR15 ps M q.1) <|
  .br (ltF 6400000 (yoE cs q)) (.done l1 ρ 1) <| .br (!eqF (fst2 (qyE cs q) (eP ps q.1.toNat)) 0) (.done l1 ρ 1) <| .br (!eqF (fst2 (eQ cs q.1.toNat) (pyE ps q)) 0) (.done l1 ρ 1) <| .br (!eqF (exE cs ps q) (spE cs ps q)) (.done l1 ρ 1) <| .br (!eqF (flE cs ps q) (spE cs ps q)) (.done l1 ρ 1) <|
  askS (bnd_ q.1 N N) <| askS (isI rs (0 + q.1.toNat * 2 + 1)) <| .br (ltF (flE cs ps q) (ce 2 1 rs q.1.toNat)) (.done l1 ρ 1) (.next l1 ρ (wrapF .i64 (q.1 + 1), nxA rs q, nxD rs q, nxV cs q))) (.done l0 ρ 0)
end
section
variable (cs ps rs : List Value) (N M : Nat) (tq : Q6) (t s t2 s2 : Nat) (ex e2 : Bool)
noncomputable def Ca (q : QL) : Cfg := ⟨T10, sp12, sy12, LRa cs ps rs N M q.1 (nxA rs q) (nxD rs q) (nxV cs q) tq t s t2 s2 ex e2 noL⟩
noncomputable def S12a : Shape QL := ⟨250, fun q => ⟨liBa N M q.1 q.2.1 q.2.2.1 q.2.2.2, hpBa cs ps rs tq t s t2 s2 ex e2⟩, fun k q => match k with
  | 0 => (.exit 0, ⟨[(8, pt 8 0), (16, i q.2.1), (17, i q.2.2.1), (18, i q.2.2.2)], hpBa cs ps rs tq t s t2 s2 ex e2⟩)
  | _ => (.ret, ⟨[(6, b_ false)], hpBa cs ps rs tq t s t2 s2 ex e2⟩)⟩
variable {cs ps rs N M tq t s t2 s2 ex e2}
theorem L12a (f1 : cs.all Ex.flat = true) (f2 : ps.all Ex.flat = true) (f3 : rs.all Ex.flat = true) : Loop1 Tryz.prog 6 12 B12 (S12a cs ps rs N M tq t s t2 s2 ex e2) 18 (st12 cs ps rs N M 21 18 (List.range 18)) (fun _ => True) :=
  .mk' (C := Ca cs ps rs N M tq t s t2 s2 ex e2) (n := 60) (fun _ _ => ts10) (fun q _ => lsRa cs ps rs N M q.1 (nxA rs q) (nxD rs q) (nxV cs q) tq t s t2 s2 ex e2 .none f1 f2 f3) (fun q ro _ => by kernel_rfl) (fun q ro _ => by kernel_rfl) (fun q => by kernel_rfl) (fun _ _ _ _ => trivial) (fun _ _ => hpBa_flat f1 f2 f3)
    (fun q k _ _ => by cases k <;> exact ⟨hpBa_flat f1 f2 f3, fun h => by cases h⟩)
end
section
variable (cs ps rs : List Value) (N M : Nat) (tq : Q6) (t s t2 s2 : Nat) (ex e2 : Bool)
noncomputable def Cb (q : QL) : Cfg := ⟨T10, sp12, sy12, LRb cs ps rs N M q.1 (nxA rs q) (nxD rs q) (nxV cs q) tq t s t2 s2 ex e2 noL⟩
noncomputable def S12b : Shape QL := ⟨250, fun q => ⟨liBb N M q.1 q.2.1 q.2.2.1 q.2.2.2, hpBb cs ps rs tq t s t2 s2 ex e2⟩, fun k q => match k with
  | 0 => (.exit 0, ⟨[(8, pt 8 0), (16, i q.2.1), (17, i q.2.2.1), (18, i q.2.2.2)], hpBb cs ps rs tq t s t2 s2 ex e2⟩)
  | _ => (.ret, ⟨[(6, b_ false)], hpBb cs ps rs tq t s t2 s2 ex e2⟩)⟩
variable {cs ps rs N M tq t s t2 s2 ex e2}
theorem L12b (f1 : cs.all Ex.flat = true) (f2 : ps.all Ex.flat = true) (f3 : rs.all Ex.flat = true) : Loop1 Tryz.prog 6 12 B12 (S12b cs ps rs N M tq t s t2 s2 ex e2) 16 (st12 cs ps rs N M 19 16 (List.range 16)) (fun _ => True) :=
  .mk' (C := Cb cs ps rs N M tq t s t2 s2 ex e2) (n := 60) (fun _ _ => ts10) (fun q _ => lsRb cs ps rs N M q.1 (nxA rs q) (nxD rs q) (nxV cs q) tq t s t2 s2 ex e2 .none f1 f2 f3) (fun q ro _ => by kernel_rfl) (fun q ro _ => by kernel_rfl) (fun q => by kernel_rfl) (fun _ _ _ _ => trivial) (fun _ _ => hpBb_flat f1 f2 f3)
    (fun q k _ _ => by cases k <;> exact ⟨hpBb_flat f1 f2 f3, fun h => by cases h⟩)
end
end Go.Proofs.YtafpmehhdcmllaaGreatDoor.Ways
