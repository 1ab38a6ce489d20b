import Derived.Test.YtafpmehhdcmllaaGreatDoorMc1
set_option maxRecDepth 10000
noncomputable section
namespace Go.Proofs.YtafpmehhdcmllaaGreatDoor.Ways
open Go Go.Ex Go.RowKit
/-! ### the sort of portions: two rows change places (region 6, its order is open, two stores into one block) -/
noncomputable def OSw : Array Oper := regC 6 60 (Tryz.f205.body.getD .skip)
theorem sizeSw : OSw.size = 18 := by kernel_rfl
noncomputable def spSr : Nat → Nat → Split := at_ [(205, 20), (205, 33), (205, 14)] .bool no_
def sySr : Nat → Nat → Bool := on_ [(205, 25), (205, 26), (205, 30), (205, 31), (205, 45), (205, 46), (205, 49), (205, 50), (205, 51), (205, 52), (205, 100051), (205, 100052)]
noncomputable def CSw : Cfg := ⟨Tc3, spSr, sySr, noL⟩
section
variable (cs P out : List Value) (n : Nat) (ii j : Int) (t s : Nat) (ex : Bool)
def hpS (out : List Value) : List (CO × Bool) := [(.dead, false), (.dead, false), (.dead, false), (.dead, false), (.cells cs t s ex, true), (.cells P 216 3 true, true), (.cells out 216 3 false, true)]
def jm (j : Int) : Int := wrapF .i64 (j - 1)
def sw1 : List Value := set3 out (0 + j.toNat * 3) (cellsAt k3 out (0 + (jm j).toNat * 3))
def sw2 : List Value := set3 (sw1 out j) (0 + (jm j).toNat * 3) (cellsAt k3 out (0 + j.toNat * 3))
noncomputable def sSw : SymS where
  live0 := [(0, sl 6 0 n n), (1, i 0), (2, i n), (3, fn 153), (8, i ii), (9, i j)]
  S := [(37, 0, sl 6 0 n n), (38, 1, i j), (39, 2, sl 6 0 n n), (40, 3, i j), (41, 4, i (jm j)), (42, 5, sl 6 0 n n), (43, 6, i j), (44, 7, i (jm j)), (45, 8, pt 6 (0 + (jm j).toNat * 3)), (46, 9, ag (cellsAt k3 out (0 + (jm j).toNat * 3))), (47, 10, sl 6 0 n n), (48, 11, i j), (49, 12, pt 6 (0 + j.toNat * 3)), (50, 13, ag (cellsAt k3 out (0 + j.toNat * 3))), (51, 14, pt 6 (0 + j.toNat * 3)), (52, 16, pt 6 (0 + (jm j).toNat * 3))]
  hp0 := [(.dead, false), (.dead, false), (.dead, false), (.dead, false), (.cells cs t s ex, true), (.cells P 216 3 true, true)]
  A := []
  A2 := [(1000, .cells out 216 3 false, 15, .cells (sw1 out j) 216 3 false, 17, .cells (sw2 out j) 216 3 false)]
def i3 (out : List Value) (k : Nat) (l : List Value) : Bool := in3 out k (l.getD 0 (i 0)) (l.getD 1 (i 0))
def cdSw (k : Nat) : List Bool := match k with
  | 8 => [bnd_ (jm j) n n]
  | 9 => [cR k3 3 out (jm j)]
  | 12 => [bnd_ j n n]
  | 13 => [cR k3 3 out j]
  | 14 => [bnd_ j n n]
  | 15 => [i3 out (0 + j.toNat * 3) (cellsAt k3 out (0 + (jm j).toNat * 3))]
  | 16 => [bnd_ (jm j) n n]
  | 17 => [i3 (sw1 out j) (0 + (jm j).toNat * 3) (cellsAt k3 out (0 + j.toNat * 3))]
  | _ => []
end
def rhoSw (_ : Nat) : List Nat := List.range 7
def lenSw (_ : Nat) : Nat := 7
def ansSw (k : Nat) : List Bool := match k with
  | 8 => [true]
  | 9 => [true]
  | 12 => [true]
  | 13 => [true]
  | 14 => [true]
  | 15 => [true]
  | 16 => [true]
  | 17 => [true]
  | _ => []
section
variable (cs P out : List Value) (n : Nat) (ii j : Int) (t s : Nat) (ex : Bool)
theorem fixSw : ∀ B : List Bool, B.length = OSw.size → (List.range OSw.size).map (fun k => outV noW Tryz.prog 5 CSw 205 OSw 53 (sSw cs P out n ii j t s ex) (forceN OSw.size (preN OSw) k B) k) = (List.range OSw.size).map fun k => (outV noW Tryz.prog 5 CSw 205 OSw 53 (sSw cs P out n ii j t s ex) (forceN OSw.size (preN OSw) k B) k).fix
  | [x0, x1, x2, x3, x4, x5, x6, x7, x8, x9, x10, x11, x12, x13, x14, x15, x16, x17], _ => by kernel_rfl
theorem obsSw : ∀ B : List Bool, B.length = OSw.size → (List.range OSw.size).map (fun k => obsV noW Tryz.prog 5 CSw 205 OSw 53 (sSw cs P out n ii j t s ex) rhoSw ansSw (forceN OSw.size (preN OSw) k B) k) = (List.range OSw.size).map fun k => expY 53 (sSw cs P out n ii j t s ex) rhoSw (cdSw out n j) lenSw (forceN OSw.size (preN OSw) k B) k
  | [x0, x1, x2, x3, x4, x5, x6, x7, x8, x9, x10, x11, x12, x13, x14, x15, x16, x17], _ => by kernel_rfl
end
section
variable {cs P out : List Value} {n : Nat} {ii j : Int} {t s : Nat} {ex : Bool}
theorem set3_fl {out l : List Value} {k : Nat} (h : out.all Ex.flat = true) (hl : l.all Ex.flat = true) : (set3 out k l).all Ex.flat = true := by
  have key : ∀ m, Ex.flat (l.getD m (i 0)) = true := fun m => by
    rw [List.getD_eq_getElem?_getD]
    cases hm : l[m]? with
    | none => rfl
    | some v => exact List.all_eq_true.1 hl v (List.mem_of_getElem? hm)
  exact set_flat (set_flat (set_flat h (key 0)) (key 1)) (key 2)
theorem sw1_flat (h : out.all Ex.flat = true) : (sw1 out j).all Ex.flat = true := set3_fl h (cellsAt_flat _ _ _)
theorem sw2_flat (h : out.all Ex.flat = true) : (sw2 out j).all Ex.flat = true := set3_fl (sw1_flat h) (cellsAt_flat _ _ _)
/-- what must hold -/
def okSw (out : List Value) (n : Nat) (j : Int) : Bool := bnd_ (jm j) n n && (cR k3 3 out (jm j) && (bnd_ j n n && (cR k3 3 out j && (i3 out (0 + j.toNat * 3) (cellsAt k3 out (0 + (jm j).toNat * 3)) && i3 (sw1 out j) (0 + (jm j).toNat * 3) (cellsAt k3 out (0 + j.toNat * 3))))))
theorem cdSw_ok (h : okSw out n j = true) : ∀ k, cdSw out n j k = (ansSw k).take (cdSw out n j k).length := by
  unfold okSw at h
  simp only [Bool.and_eq_true] at h
  obtain ⟨h1, h2, h3, h4, h5, h6⟩ := h
  intro k
  unfold cdSw ansSw
  split
  · rw [h1]; rfl
  · rw [h2]; rfl
  · rw [h3]; rfl
  · rw [h4]; rfl
  · rw [h3]; rfl
  · rw [h5]; rfl
  · rw [h1]; rfl
  · rw [h6]; rfl
  · rfl
theorem hpS0_flat (f1 : cs.all Ex.flat = true) (f2 : P.all Ex.flat = true) : ∀ o, (o, true) ∈ (sSw cs P out n ii j t s ex).hp0 → FlatO o := by
  intro o ho
  simp [sSw] at ho
  rcases ho with rfl | rfl
  · exact fun x hx => List.all_eq_true.1 f1 x hx
  · exact fun x hx => List.all_eq_true.1 f2 x hx
theorem hpS_flat (f1 : cs.all Ex.flat = true) (f2 : P.all Ex.flat = true) (f3 : out.all Ex.flat = true) : ∀ o, (o, true) ∈ hpS cs P t s ex out → FlatO o := by
  intro o ho
  simp [hpS] at ho
  rcases ho with rfl | rfl | rfl
  · exact fun x hx => List.all_eq_true.1 f1 x hx
  · exact fun x hx => List.all_eq_true.1 f2 x hx
  · exact fun x hx => List.all_eq_true.1 f3 x hx
theorem ordSw (f1 : cs.all Ex.flat = true) (f2 : P.all Ex.flat = true) (f3 : out.all Ex.flat = true) (h : okSw out n j = true) : Orders (selfA (qS noW)) Tryz.prog 5 OSw 7 (fun m => m < 2 ^ OSw.size ∧ GoodY OSw (bitsL OSw.size m)) (fun m => absT (tmL 53 ((sSw cs P out n ii j t s ex).live (bitsL OSw.size m)))) (fun m => heapL ((sSw cs P out n ii j t s ex).hp (bitsL OSw.size m))) (2 ^ OSw.size - 1) :=
  sym_ofW (fixSw cs P out n ii j t s ex) (obsSw cs P out n ii j t s ex) (cdSw_ok h) (by kernel_rfl) (by kernel_rfl) (by kernel_rfl) (by kernel_rfl) (by kernel_rfl) (hpS0_flat f1 f2)
    (fun q hq => absurd hq List.not_mem_nil)
    (fun q hq => by
      simp only [sSw, List.mem_cons, List.not_mem_nil, or_false] at hq
      subst hq
      exact ⟨fun x hx => List.all_eq_true.1 f3 x hx, fun x hx => List.all_eq_true.1 (sw1_flat f3) x hx, fun x hx => List.all_eq_true.1 (sw2_flat f3) x hx⟩)
end
section
variable (cs P out : List Value) (n : Nat) (ii j : Int) (t s : Nat) (ex : Bool)
noncomputable def tmSw : TM := tmL 53 ((sSw cs P out n ii j t s ex).live (List.replicate 18 true))
noncomputable def hSw : CH := heapL ((sSw cs P out n ii j t s ex).hp (List.replicate 18 true))
theorem endSw : bitsL OSw.size (2 ^ OSw.size - 1) = List.replicate 18 true := by kernel_rfl
theorem padSw : heapL ((sSw cs P out n ii j t s ex).hp (bitsL OSw.size 0)) = heapL ((hpS cs P t s ex out).map (·.1) ++ List.replicate 0 .dead) := by kernel_rfl
theorem zeroSw : tmL 53 ((sSw cs P out n ii j t s ex).live (bitsL OSw.size 0)) = tmL 53 (sSw cs P out n ii j t s ex).live0 := by kernel_rfl
variable {cs P out n ii j t s ex}
theorem sndSw (f1 : cs.all Ex.flat = true) (f2 : P.all Ex.flat = true) (f3 : out.all Ex.flat = true) (h : okSw out n j = true) (ro : Option Nat) {tm0 : Array Value} {H0 : CH} (hk : H0.length = 7) (hst : Restate 7 tm0 H0 (absT (tmL 53 (sSw cs P out n ii j t s ex).live0)) (heapL ((hpS cs P t s ex out).map (·.1)))) :
    Sound Tryz.prog 5 (.code (.region 6 OSw true) ro tm0 H0 []) (.ex .normal (absT (tmSw cs P out n ii j t s ex)) (hSw cs P out n ii j t s ex) []) := by
  have ho := ordSw (ii := ii) (t := t) (s := s) (ex := ex) f1 f2 f3 h
  have hp := padSw cs P out n ii j t s ex
  have hz := zeroSw cs P out n ii j t s ex
  have h0 := goodY_zero OSw
  unfold tmSw hSw
  rw [← endSw]
  rw [← hz] at hst
  generalize sSw cs P out n ii j t s ex = s at *
  rw [← hk] at ho hst
  exact orders_sound2 (tmS := fun m => absT (tmL 53 (s.live (bitsL OSw.size m)))) (HS := fun m => heapL (s.hp (bitsL OSw.size m))) (mF := 2 ^ OSw.size - 1) (qS_selfSound noW_sound) mixC ho (by rw [hk]; decide) h0 hp hst ro
end
section
variable (cs P out : List Value) (n : Nat) (ii j : Int) (t s : Nat) (ex : Bool)
noncomputable def LSw (L : LTab) : LTab := regE L 205 6 53 7 OSw (sSw cs P out n ii j t s ex).live0 (hpS cs P t s ex out) (.br (okSw out n j) (.leaf (.ex .normal (tmSw cs P out n ii j t s ex) (hSw cs P out n ii j t s ex) [])) .fail)
theorem lsSw {L : LTab} (hL : LSound Tryz.prog 5 L) (f1 : cs.all Ex.flat = true) (f2 : P.all Ex.flat = true) (f3 : out.all Ex.flat = true) : LSound Tryz.prog 5 (LSw cs P out n ii j t s ex L) := by
  refine LSound.region hL (by kernel_rfl) (hpS_flat f1 f2 f3) fun r hr ro tm0 H0 hk hst => ?_
  cases h : okSw out n j with
  | false => rw [h] at hr; cases hr
  | true =>
    rw [h] at hr
    cases hr
    exact sndSw f1 f2 f3 h ro hk hst
end
end Go.Proofs.YtafpmehhdcmllaaGreatDoor.Ways
set_option maxRecDepth 10000
noncomputable section
namespace Go.Proofs.YtafpmehhdcmllaaGreatDoor.Ways
open Go Go.Ex Go.RowKit
/-! ### the sort of portions: the loops -/
noncomputable def Bsi : Code := bodyL Tryz.f205 4
noncomputable def Bso : Code := bodyL Tryz.f205 1
abbrev QS := Int × List Value
section
variable (cs P : List Value) (n : Nat) (ii : Int) (t s : Nat) (ex : Bool)
noncomputable def CSi (q : QS) : Cfg := ⟨Tc3, spSr, sySr, LSw cs P q.2 n ii q.1 t s ex noL⟩
def Ssi : Shape QS := ⟨53, fun q => ⟨[(0, sl 6 0 n n), (1, i 0), (2, i n), (3, fn 153), (8, i ii), (9, i q.1)], hpS cs P t s ex q.2⟩, fun _ q => (.exit 2, ⟨[(0, sl 6 0 n n), (1, i 0), (2, i n), (3, fn 153), (8, i ii)], hpS cs P t s ex q.2⟩)⟩
def less (q : QS) : Bool := ltF (cmE (ce 3 2 q.2 (jm q.1).toNat) (ce 3 2 q.2 q.1.toNat)) 0
def stSi (q : QS) : SS QS := .br (ltF 0 q.1) (askS (bnd_ q.1 n n) <| askS (cR k3 3 q.2 q.1) <| askS (bnd_ (jm q.1) n n) <| askS (cR k3 3 q.2 (jm q.1)) <|
  .br (less q) (askS (okSw q.2 n q.1) <| .next 7 [0, 1, 2, 3, 4, 5, 6] (jm q.1, sw2 q.2 q.1)) (.done 7 [0, 1, 2, 3, 4, 5, 6] 0)) (.done 7 [0, 1, 2, 3, 4, 5, 6] 0)
end
theorem Lsi {cs P : List Value} {n : Nat} {ii : Int} {t s : Nat} {ex : Bool} (h : cs.all Ex.flat = true) (h2 : P.all Ex.flat = true) : Loop1 Tryz.prog 5 205 Bsi (Ssi cs P n ii t s ex) 7 (stSi n) (fun q => q.2.all Ex.flat = true) :=
  .mk' (C := CSi cs P n ii t s ex) (n := 60) (fun _ _ => tsc3) (fun q hq => lsSw cs P q.2 n ii q.1 t s ex .none h h2 hq) (fun q ro _ => by kernel_rfl) (fun q ro _ => by kernel_rfl) (fun q => by kernel_rfl)
    (fun q q' hg h => by
      rcases br_or' h with h | h
      · have h := ask_or' (ask_or' (ask_or' (ask_or' h)))
        rcases br_or' h with h | h
        · have h := ask_or' h
          cases h
          exact sw2_flat hg
        · cases h
      · cases h) (fun q hq => hpS_flat h h2 hq)
    (fun q k hq _ => ⟨hpS_flat h h2 hq, fun h => by cases h⟩)
end Go.Proofs.YtafpmehhdcmllaaGreatDoor.Ways
