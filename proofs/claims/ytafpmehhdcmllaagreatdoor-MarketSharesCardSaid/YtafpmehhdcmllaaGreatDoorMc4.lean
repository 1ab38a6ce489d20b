import Derived.Test.YtafpmehhdcmllaaGreatDoorMc1
import Derived.Test.YtafpmehhdcmllaaGreatDoorMda
import Derived.Test.YtafpmehhdcmllaaGreatDoorEngEnt
set_option maxRecDepth 10000
noncomputable section
namespace Go.Proofs.YtafpmehhdcmllaaGreatDoor.Ways
open Go Go.Ex Go.RowKit
/-! ### the sort of portions: two rows change places (region 6, its order is open, two stores into one block) -/
noncomputable def OSw : Array Oper := regC 6 60 (Tryz.f205.body.getD .skip)
theorem sizeSw : OSw.size = 18 := by kernel_rfl
noncomputable def spSr : Nat → Nat → Split := at_ [(205, 20), (205, 33), (205, 14)] .bool no_
def sySr : Nat → Nat → Bool := on_ [(205, 25), (205, 26), (205, 30), (205, 31), (205, 45), (205, 46), (205, 49), (205, 50), (205, 51), (205, 52), (205, 100051), (205, 100052)]
noncomputable def CSw : Cfg := ⟨Tc3, spSr, sySr, noL⟩
section
variable (cs P out : List Value) (n : Nat) (ii j : Int) (t s : Nat) (ex : Bool)
def hpS (out : List Value) : List (CO × Bool) := [(.dead, false), (.dead, false), (.dead, false), (.dead, false), (.cells cs t s ex, true), (.cells P 216 3 true, true), (.cells out 216 3 false, true)]
def jm (j : Int) : Int := wrapF .i64 (j - 1)
def sw1 : List Value := set3 out (0 + j.toNat * 3) (cellsAt k3 out (0 + (jm j).toNat * 3))
def sw2 : List Value := set3 (sw1 out j) (0 + (jm j).toNat * 3) (cellsAt k3 out (0 + j.toNat * 3))
noncomputable def sSw : SymS where
  live0 := [(0, sl 6 0 n n), (1, i 0), (2, i n), (3, fn 153), (8, i ii), (9, i j)]
  S := [(37, 0, sl 6 0 n n), (38, 1, i j), (39, 2, sl 6 0 n n), (40, 3, i j), (41, 4, i (jm j)), (42, 5, sl 6 0 n n), (43, 6, i j), (44, 7, i (jm j)), (45, 8, pt 6 (0 + (jm j).toNat * 3)), (46, 9, ag (cellsAt k3 out (0 + (jm j).toNat * 3))), (47, 10, sl 6 0 n n), (48, 11, i j), (49, 12, pt 6 (0 + j.toNat * 3)), (50, 13, ag (cellsAt k3 out (0 + j.toNat * 3))), (51, 14, pt 6 (0 + j.toNat * 3)), (52, 16, pt 6 (0 + (jm j).toNat * 3))]
  hp0 := [(.dead, false), (.dead, false), (.dead, false), (.dead, false), (.cells cs t s ex, true), (.cells P 216 3 true, true)]
  A := []
  A2 := [(1000, .cells out 216 3 false, 15, .cells (sw1 out j) 216 3 false, 17, .cells (sw2 out j) 216 3 false)]
def i3 (out : List Value) (k : Nat) (l : List Value) : Bool := in3 out k (l.getD 0 (i 0)) (l.getD 1 (i 0))
def cdSw (k : Nat) : List Bool := match k with
  | 8 => [bnd_ (jm j) n n]
  | 9 => [cR k3 3 out (jm j)]
  | 12 => [bnd_ j n n]
  | 13 => [cR k3 3 out j]
  | 14 => [bnd_ j n n]
  | 15 => [i3 out (0 + j.toNat * 3) (cellsAt k3 out (0 + (jm j).toNat * 3))]
  | 16 => [bnd_ (jm j) n n]
  | 17 => [i3 (sw1 out j) (0 + (jm j).toNat * 3) (cellsAt k3 out (0 + j.toNat * 3))]
  | _ => []
end
def rhoSw (_ : Nat) : List Nat := List.range 7
def lenSw (_ : Nat) : Nat := 7
def ansSw (k : Nat) : List Bool := match k with
  | 8 => [true]
  | 9 => [true]
  | 12 => [true]
  | 13 => [true]
  | 14 => [true]
  | 15 => [true]
  | 16 => [true]
  | 17 => [true]
  | _ => []
section
variable (cs P out : List Value) (n : Nat) (ii j : Int) (t s : Nat) (ex : Bool)
theorem fixSw : ∀ B : List Bool, B.length = OSw.size → (List.range OSw.size).map (fun k => outV noW Tryz.prog 5 CSw 205 OSw 53 (sSw cs P out n ii j t s ex) (forceN OSw.size (preN OSw) k B) k) = (List.range OSw.size).map fun k => (outV noW Tryz.prog 5 CSw 205 OSw 53 (sSw cs P out n ii j t s ex) (forceN OSw.size (preN OSw) k B) k).fix
  | [x0, x1, x2, x3, x4, x5, x6, x7, x8, x9, x10, x11, x12, x13, x14, x15, x16, x17], _ => by kernel_rfl
theorem obsSw : ∀ B : List Bool, B.length = OSw.size → (List.range OSw.size).map (fun k => obsV noW Tryz.prog 5 CSw 205 OSw 53 (sSw cs P out n ii j t s ex) rhoSw ansSw (forceN OSw.size (preN OSw) k B) k) = (List.range OSw.size).map fun k => expY 53 (sSw cs P out n ii j t s ex) rhoSw (cdSw out n j) lenSw (forceN OSw.size (preN OSw) k B) k
  | [x0, x1, x2, x3, x4, x5, x6, x7, x8, x9, x10, x11, x12, x13, x14, x15, x16, x17], _ => by kernel_rfl
end
section
variable {cs P out : List Value} {n : Nat} {ii j : Int} {t s : Nat} {ex : Bool}
theorem set3_fl {out l : List Value} {k : Nat} (h : out.all Ex.flat = true) (hl : l.all Ex.flat = true) : (set3 out k l).all Ex.flat = true := by
  have key : ∀ m, Ex.flat (l.getD m (i 0)) = true := fun m => by
    rw [List.getD_eq_getElem?_getD]
    cases hm : l[m]? with
    | none => rfl
    | some v => exact List.all_eq_true.1 hl v (List.mem_of_getElem? hm)
  exact set_flat (set_flat (set_flat h (key 0)) (key 1)) (key 2)
theorem sw1_flat (h : out.all Ex.flat = true) : (sw1 out j).all Ex.flat = true := set3_fl h (cellsAt_flat _ _ _)
theorem sw2_flat (h : out.all Ex.flat = true) : (sw2 out j).all Ex.flat = true := set3_fl (sw1_flat h) (cellsAt_flat _ _ _)
/-- what must hold -/
def okSw (out : List Value) (n : Nat) (j : Int) : Bool := bnd_ (jm j) n n && (cR k3 3 out (jm j) && (bnd_ j n n && (cR k3 3 out j && (i3 out (0 + j.toNat * 3) (cellsAt k3 out (0 + (jm j).toNat * 3)) && i3 (sw1 out j) (0 + (jm j).toNat * 3) (cellsAt k3 out (0 + j.toNat * 3))))))
theorem cdSw_ok (h : okSw out n j = true) : ∀ k, cdSw out n j k = (ansSw k).take (cdSw out n j k).length := by
  unfold okSw at h
  simp only [Bool.and_eq_true] at h
  obtain ⟨h1, h2, h3, h4, h5, h6⟩ := h
  intro k
  unfold cdSw ansSw
  split
  · rw [h1]; rfl
  · rw [h2]; rfl
  · rw [h3]; rfl
  · rw [h4]; rfl
  · rw [h3]; rfl
  · rw [h5]; rfl
  · rw [h1]; rfl
  · rw [h6]; rfl
  · rfl
theorem hpS0_flat (f1 : cs.all Ex.flat = true) (f2 : P.all Ex.flat = true) : ∀ o, (o, true) ∈ (sSw cs P out n ii j t s ex).hp0 → FlatO o := by
  intro o ho
  simp [sSw] at ho
  rcases ho with rfl | rfl
  · exact fun x hx => List.all_eq_true.1 f1 x hx
  · exact fun x hx => List.all_eq_true.1 f2 x hx
theorem hpS_flat (f1 : cs.all Ex.flat = true) (f2 : P.all Ex.flat = true) (f3 : out.all Ex.flat = true) : ∀ o, (o, true) ∈ hpS cs P t s ex out → FlatO o := by
  intro o ho
  simp [hpS] at ho
  rcases ho with rfl | rfl | rfl
  · exact fun x hx => List.all_eq_true.1 f1 x hx
  · exact fun x hx => List.all_eq_true.1 f2 x hx
  · exact fun x hx => List.all_eq_true.1 f3 x hx
theorem ordSw (f1 : cs.all Ex.flat = true) (f2 : P.all Ex.flat = true) (f3 : out.all Ex.flat = true) (h : okSw out n j = true) : Orders (selfA (qS noW)) Tryz.prog 5 OSw 7 (fun m => m < 2 ^ OSw.size ∧ GoodY OSw (bitsL OSw.size m)) (fun m => absT (tmL 53 ((sSw cs P out n ii j t s ex).live (bitsL OSw.size m)))) (fun m => heapL ((sSw cs P out n ii j t s ex).hp (bitsL OSw.size m))) (2 ^ OSw.size - 1) :=
  sym_ofW (fixSw cs P out n ii j t s ex) (obsSw cs P out n ii j t s ex) (cdSw_ok h) (by kernel_rfl) (by kernel_rfl) (by kernel_rfl) (by kernel_rfl) (by kernel_rfl) (hpS0_flat f1 f2)
    (fun q hq => absurd hq List.not_mem_nil)
    (fun q hq => by
      simp only [sSw, List.mem_cons, List.not_mem_nil, or_false] at hq
      subst hq
      exact ⟨fun x hx => List.all_eq_true.1 f3 x hx, fun x hx => List.all_eq_true.1 (sw1_flat f3) x hx, fun x hx => List.all_eq_true.1 (sw2_flat f3) x hx⟩)
end
section
variable (cs P out : List Value) (n : Nat) (ii j : Int) (t s : Nat) (ex : Bool)
noncomputable def tmSw : TM := tmL 53 ((sSw cs P out n ii j t s ex).live (List.replicate 18 true))
noncomputable def hSw : CH := heapL ((sSw cs P out n ii j t s ex).hp (List.replicate 18 true))
theorem endSw : bitsL OSw.size (2 ^ OSw.size - 1) = List.replicate 18 true := by kernel_rfl
theorem padSw : heapL ((sSw cs P out n ii j t s ex).hp (bitsL OSw.size 0)) = heapL ((hpS cs P t s ex out).map (·.1) ++ List.replicate 0 .dead) := by kernel_rfl
theorem zeroSw : tmL 53 ((sSw cs P out n ii j t s ex).live (bitsL OSw.size 0)) = tmL 53 (sSw cs P out n ii j t s ex).live0 := by kernel_rfl
variable {cs P out n ii j t s ex}
theorem sndSw (f1 : cs.all Ex.flat = true) (f2 : P.all Ex.flat = true) (f3 : out.all Ex.flat = true) (h : okSw out n j = true) (ro : Option Nat) {tm0 : Array Value} {H0 : CH} (hk : H0.length = 7) (hst : Restate 7 tm0 H0 (absT (tmL 53 (sSw cs P out n ii j t s ex).live0)) (heapL ((hpS cs P t s ex out).map (·.1)))) :
    Sound Tryz.prog 5 (.code (.region 6 OSw true) ro tm0 H0 []) (.ex .normal (absT (tmSw cs P out n ii j t s ex)) (hSw cs P out n ii j t s ex) []) := by
  have ho := ordSw (ii := ii) (t := t) (s := s) (ex := ex) f1 f2 f3 h
  have hp := padSw cs P out n ii j t s ex
  have hz := zeroSw cs P out n ii j t s ex
  have h0 := goodY_zero OSw
  unfold tmSw hSw
  rw [← endSw]
  rw [← hz] at hst
  generalize sSw cs P out n ii j t s ex = s at *
  rw [← hk] at ho hst
  exact orders_sound2 (tmS := fun m => absT (tmL 53 (s.live (bitsL OSw.size m)))) (HS := fun m => heapL (s.hp (bitsL OSw.size m))) (mF := 2 ^ OSw.size - 1) (qS_selfSound noW_sound) mixC ho (by rw [hk]; decide) h0 hp hst ro
end
section
variable (cs P out : List Value) (n : Nat) (ii j : Int) (t s : Nat) (ex : Bool)
noncomputable def LSw (L : LTab) : LTab := regE L 205 6 53 7 OSw (sSw cs P out n ii j t s ex).live0 (hpS cs P t s ex out) (.br (okSw out n j) (.leaf (.ex .normal (tmSw cs P out n ii j t s ex) (hSw cs P out n ii j t s ex) [])) .fail)
theorem lsSw {L : LTab} (hL : LSound Tryz.prog 5 L) (f1 : cs.all Ex.flat = true) (f2 : P.all Ex.flat = true) (f3 : out.all Ex.flat = true) : LSound Tryz.prog 5 (LSw cs P out n ii j t s ex L) := by
  refine LSound.region hL (by kernel_rfl) (hpS_flat f1 f2 f3) fun r hr ro tm0 H0 hk hst => ?_
  cases h : okSw out n j with
  | false => rw [h] at hr; cases hr
  | true =>
    rw [h] at hr
    cases hr
    exact sndSw f1 f2 f3 h ro hk hst
end
end Go.Proofs.YtafpmehhdcmllaaGreatDoor.Ways
set_option maxRecDepth 10000
noncomputable section
namespace Go.Proofs.YtafpmehhdcmllaaGreatDoor.Ways
open Go Go.Ex Go.RowKit
/-! ### the sort of portions: the loops -/
noncomputable def Bsi : Code := bodyL Tryz.f205 4
noncomputable def Bso : Code := bodyL Tryz.f205 1
abbrev QS := Int × List Value
section
variable (cs P : List Value) (n : Nat) (ii : Int) (t s : Nat) (ex : Bool)
noncomputable def CSi (q : QS) : Cfg := ⟨Tc3, spSr, sySr, LSw cs P q.2 n ii q.1 t s ex noL⟩
def Ssi : Shape QS := ⟨53, fun q => ⟨[(0, sl 6 0 n n), (1, i 0), (2, i n), (3, fn 153), (8, i ii), (9, i q.1)], hpS cs P t s ex q.2⟩, fun _ q => (.exit 2, ⟨[(0, sl 6 0 n n), (1, i 0), (2, i n), (3, fn 153), (8, i ii)], hpS cs P t s ex q.2⟩)⟩
def less (q : QS) : Bool := ltF (cmE (ce 3 2 q.2 (jm q.1).toNat) (ce 3 2 q.2 q.1.toNat)) 0
def stSi (q : QS) : SS QS := .br (ltF 0 q.1) (askS (bnd_ q.1 n n) <| askS (cR k3 3 q.2 q.1) <| askS (bnd_ (jm q.1) n n) <| askS (cR k3 3 q.2 (jm q.1)) <|
  .br (less q) (askS (okSw q.2 n q.1) <| .next 7 [0, 1, 2, 3, 4, 5, 6] (jm q.1, sw2 q.2 q.1)) (.done 7 [0, 1, 2, 3, 4, 5, 6] 0)) (.done 7 [0, 1, 2, 3, 4, 5, 6] 0)
end
theorem Lsi {cs P : List Value} {n : Nat} {ii : Int} {t s : Nat} {ex : Bool} (h : cs.all Ex.flat = true) (h2 : P.all Ex.flat = true) : Loop1 Tryz.prog 5 205 Bsi (Ssi cs P n ii t s ex) 7 (stSi n) (fun q => q.2.all Ex.flat = true) :=
  .mk' (C := CSi cs P n ii t s ex) (n := 60) (fun _ _ => tsc3) (fun q hq => lsSw cs P q.2 n ii q.1 t s ex .none h h2 hq) (fun q ro _ => by kernel_rfl) (fun q ro _ => by kernel_rfl) (fun q => by kernel_rfl)
    (fun q q' hg h => by
      rcases br_or' h with h | h
      · have h := ask_or' (ask_or' (ask_or' (ask_or' h)))
        rcases br_or' h with h | h
        · have h := ask_or' h
          cases h
          exact sw2_flat hg
        · cases h
      · cases h) (fun q hq => hpS_flat h h2 hq)
    (fun q k hq _ => ⟨hpS_flat h h2 hq, fun h => by cases h⟩)
end Go.Proofs.YtafpmehhdcmllaaGreatDoor.Ways
set_option maxRecDepth 10000
noncomputable section
namespace Go.Proofs.YtafpmehhdcmllaaGreatDoor.Ways
open Go Go.Ex Go.RowKit Go.Ex.Srt
/-! ### the sort of portions: the outer loop -/
noncomputable def inP (n : Nat) (q : QS) : Prop := endP (stSi n) q
noncomputable def inE (n : Nat) (q : QS) : QS := endE (stSi n) q
section
variable (cs P : List Value) (n : Nat) (t s : Nat) (ex : Bool)
noncomputable def KSo (q : QS) : Cfg := ⟨Tc3, spSr, sySr, loopE noL 205 4 53 7 Bsi ((Ssi cs P n q.1 t s ex).st (q.1, q.2)).live ((Ssi cs P n q.1 t s ex).st (q.1, q.2)).hp (.br (tru (inP n (q.1, q.2))) (finO (Ssi cs P n q.1 t s ex) (0, inE n (q.1, q.2)) [0]) .fail)⟩
def Sso : Shape QS := ⟨53, fun q => ⟨[(0, sl 6 0 n n), (1, i 0), (2, i n), (3, fn 153), (8, i q.1)], hpS cs P t s ex q.2⟩, fun _ q => (.exit 0, ⟨[(0, sl 6 0 n n), (1, i 0), (2, i n), (3, fn 153)], hpS cs P t s ex q.2⟩)⟩
noncomputable def stSo (q : QS) : SS QS := .br (ltF q.1 n) (askS (tru (inP n (q.1, q.2))) <| askS true <| .next 7 [0, 1, 2, 3, 4, 5, 6] (wrapF .i64 (q.1 + 1), (inE n (q.1, q.2)).2)) (.done 7 [0, 1, 2, 3, 4, 5, 6] 0)
end
theorem goodSi {n : Nat} : ∀ q q' : QS, q.2.all Ex.flat = true → (stSi n q).sel = some (.inl q') → q'.2.all Ex.flat = true := by
  intro q q' hg h
  rcases br_or' h with h | h
  · have h := ask_or' (ask_or' (ask_or' (ask_or' h)))
    rcases br_or' h with h | h
    · have h := ask_or' h
      cases h
      exact sw2_flat hg
    · cases h
  · cases h
theorem goodSo {n : Nat} : ∀ q q' : QS, q.2.all Ex.flat = true → (stSo n q).sel = some (.inl q') → q'.2.all Ex.flat = true := by
  intro q q' hg h
  rcases br_or' h with h | h
  · have h := ask_or' (ask_or' h)
    cases h
    exact endE_good (Good := fun q : QS => q.2.all Ex.flat = true) goodSi (s := (q.1, q.2)) hg
  · cases h
theorem Lso {cs P : List Value} {n : Nat} {t s : Nat} {ex : Bool} (h : cs.all Ex.flat = true) (h2 : P.all Ex.flat = true) : Loop1 Tryz.prog 5 205 Bso (Sso cs P n t s ex) 7 (stSo n) (fun q => q.2.all Ex.flat = true) :=
  .mk' (C := KSo cs P n t s ex) (n := 60) (fun _ _ => tsc3) (fun q hq => (Lsi (ii := q.1) (t := t) (s := s) (ex := ex) (n := n) h h2).tableIf (id := 4) (s0 := (q.1, q.2)) .none (by decide) hq (fun hp => endE_run (tru_iff.1 hp)) (by kernel_rfl) [0]) (fun q ro _ => by kernel_rfl) (fun q ro _ => by kernel_rfl) (fun q => by kernel_rfl)
    goodSo (fun q hq => hpS_flat h h2 hq)
    (fun q k hq _ => ⟨hpS_flat h h2 hq, fun h => by cases h⟩)
/-! what the loops come to -/
def rc (r : Rw) : List Value := [i r.1, i r.2.1, i r.2.2]
def rwC : List Rw → List Value
  | [] => []
  | r :: l => rc r ++ rwC l
theorem rwC_app : ∀ a b : List Rw, rwC (a ++ b) = rwC a ++ rwC b
  | [], _ => rfl
  | r :: a, b => by
    show rc r ++ rwC (a ++ b) = (rc r ++ rwC a) ++ rwC b
    rw [rwC_app a b, List.append_assoc]
theorem rwC_len : ∀ l : List Rw, (rwC l).length = l.length * 3
  | [] => rfl
  | r :: l => by
    show (rc r ++ rwC l).length = (l.length + 1) * 3
    rw [List.length_append, rwC_len l]
    show 3 + l.length * 3 = _
    omega
theorem rwC_flat : ∀ l : List Rw, (rwC l).all Ex.flat = true
  | [] => rfl
  | _ :: l => app_flat rfl (rwC_flat l)
/-- the row at a place -/
theorem rwC_at {A B : List Rw} {r : Rw} {k : Nat} (h : A.length = k) : (rwC (A ++ r :: B))[0 + k * 3]? = some (i r.1) ∧ (rwC (A ++ r :: B))[0 + k * 3 + 1]? = some (i r.2.1) ∧ (rwC (A ++ r :: B))[0 + k * 3 + 2]? = some (i r.2.2) := by
  rw [rwC_app]
  have hl := rwC_len A
  refine ⟨?_, ?_, ?_⟩
  · rw [List.getElem?_append_right (by omega), show 0 + k * 3 - (rwC A).length = 0 from by omega]; rfl
  · rw [List.getElem?_append_right (by omega), show 0 + k * 3 + 1 - (rwC A).length = 1 from by omega]; rfl
  · rw [List.getElem?_append_right (by omega), show 0 + k * 3 + 2 - (rwC A).length = 2 from by omega]; rfl
theorem rwC_cR {A B : List Rw} {r : Rw} {k : Nat} (h : A.length = k) : cR k3 3 (rwC (A ++ r :: B)) (k : Int) = true := by
  obtain ⟨h1, h2, h3⟩ := rwC_at (B := B) (r := r) h
  unfold cR k3 areCells areCells areCells areCells
  rw [show ((k : Nat) : Int).toNat = k from rfl, h1, h2, h3]; rfl
theorem rwC_cells {A B : List Rw} {r : Rw} {k : Nat} (h : A.length = k) : cellsAt k3 (rwC (A ++ r :: B)) (0 + k * 3) = rc r := by
  obtain ⟨h1, h2, h3⟩ := rwC_at (B := B) (r := r) h
  unfold k3 cellsAt cellsAt cellsAt cellsAt
  rw [h1, h2, h3]; rfl
theorem rwC_ce {A B : List Rw} {r : Rw} {k : Nat} (h : A.length = k) : ce 3 0 (rwC (A ++ r :: B)) k = r.1 ∧ ce 3 1 (rwC (A ++ r :: B)) k = r.2.1 ∧ ce 3 2 (rwC (A ++ r :: B)) k = r.2.2 := by
  obtain ⟨h1, h2, h3⟩ := rwC_at (B := B) (r := r) h
  unfold ce
  rw [h2, h3, show 0 + k * 3 + 0 = 0 + k * 3 from rfl, h1]
  exact ⟨rfl, rfl, rfl⟩
theorem rwC_set {A B : List Rw} {r x : Rw} {k : Nat} (h : A.length = k) : set3 (rwC (A ++ r :: B)) (0 + k * 3) (rc x) = rwC (A ++ x :: B) := by
  rw [rwC_app, rwC_app]
  show set3 (rwC A ++ i r.1 :: i r.2.1 :: i r.2.2 :: rwC B) (0 + k * 3) [i x.1, i x.2.1, i x.2.2] = _
  rw [set3_app (by rw [rwC_len]; omega)]; rfl
theorem rwC_in {A B : List Rw} {r x : Rw} {k : Nat} (h : A.length = k) : i3 (rwC (A ++ r :: B)) (0 + k * 3) (rc x) = true := by
  unfold i3
  exact in3_t (by rw [rwC_len, List.length_append, List.length_cons]; omega)
theorem cmE_lt (x y : Int) : ltF (cmE x y) 0 = decide (x < y) := by
  unfold cmE
  rw [ltF_eq]
  by_cases h1 : x < y
  · rw [if_pos h1, decide_eq_true h1]; rfl
  · rw [if_neg h1, decide_eq_false h1]
    by_cases h2 : y < x
    · rw [if_pos h2]; rfl
    · rw [if_neg h2]; rfl
theorem runSi {n : Nat} (hn : n < 1000000) {y : Rw} : ∀ (A : List Rw) (R : List Rw), (A.reverse ++ y :: R).length = n → ∃ m j, runS (stSi n) m ((A.length : Int), rwC (A.reverse ++ y :: R)) = some (0, (j, rwC ((insR y A).reverse ++ R)))
  | [], R, hL => by
    refine ⟨1, 0, ?_⟩
    refine runS_done ?_
    show (stSi n (0, rwC ([] ++ y :: R))).sel = _
    unfold stSi
    rw [br_f (by rw [ltF_eq]; rfl)]; rfl
  | x :: T, R, hL => by
    have hT : T.reverse.length = T.length := List.length_reverse
    have hxl : (T.reverse ++ [x]).length = T.length + 1 := by rw [List.length_append, hT]; rfl
    have hlen : T.length + 1 < n := by
      rw [← hL, List.length_append, List.length_reverse, List.length_cons, List.length_cons]; omega
    have e1 : (x :: T).reverse ++ y :: R = T.reverse ++ x :: (y :: R) := by simp
    have e2 : (x :: T).reverse ++ y :: R = (T.reverse ++ [x]) ++ y :: R := by simp
    have hj : (((x :: T).length : Nat) : Int) = ((T.length + 1 : Nat) : Int) := rfl
    have hjm : jm ((T.length + 1 : Nat) : Int) = (T.length : Int) := by
      unfold jm
      rw [wrapF_in (by omega) (by omega)]; omega
    have b1 : bnd_ ((T.length + 1 : Nat) : Int) n n = true := bnd_t hlen (Nat.le_refl n)
    have b2 : bnd_ (T.length : Int) n n = true := bnd_t (by omega) (Nat.le_refl n)
    have c1 : cR k3 3 (rwC ((x :: T).reverse ++ y :: R)) ((T.length + 1 : Nat) : Int) = true := by rw [e2]; exact rwC_cR hxl
    have c2 : cR k3 3 (rwC ((x :: T).reverse ++ y :: R)) (T.length : Int) = true := by rw [e1]; exact rwC_cR hT
    have d1 := rwC_cells (A := T.reverse) (B := y :: R) (r := x) hT
    have d2 := rwC_cells (A := T.reverse ++ [x]) (B := R) (r := y) hxl
    have hl : less (((T.length + 1 : Nat) : Int), rwC ((x :: T).reverse ++ y :: R)) = decide (x.2.2 < y.2.2) := by
      unfold less
      dsimp only
      rw [hjm, show ((T.length : Nat) : Int).toNat = T.length from rfl, show ((T.length + 1 : Nat) : Int).toNat = T.length + 1 from rfl]
      rw [show ce 3 2 (rwC ((x :: T).reverse ++ y :: R)) T.length = x.2.2 by rw [e1]; exact (rwC_ce hT).2.2]
      rw [show ce 3 2 (rwC ((x :: T).reverse ++ y :: R)) (T.length + 1) = y.2.2 by rw [e2]; exact (rwC_ce hxl).2.2]
      exact cmE_lt _ _
    have hpre : ∀ K : SS QS, (SS.br (ltF 0 ((T.length + 1 : Nat) : Int)) (askS (bnd_ ((T.length + 1 : Nat) : Int) n n) <| askS (cR k3 3 (rwC ((x :: T).reverse ++ y :: R)) ((T.length + 1 : Nat) : Int)) <| askS (bnd_ (jm ((T.length + 1 : Nat) : Int)) n n) <| askS (cR k3 3 (rwC ((x :: T).reverse ++ y :: R)) (jm ((T.length + 1 : Nat) : Int))) K) (.done 7 [0, 1, 2, 3, 4, 5, 6] 0)).sel = K.sel := by
      intro K
      rw [br_t (by rw [ltF_eq]; exact decide_eq_true (by omega)), askS_sel b1, askS_sel c1, hjm, askS_sel b2, askS_sel c2]
    by_cases hx : x.2.2 < y.2.2
    · have s1 : sw1 (rwC ((x :: T).reverse ++ y :: R)) ((T.length + 1 : Nat) : Int) = rwC ((T.reverse ++ [x]) ++ x :: R) := by
        unfold sw1
        rw [hjm, show ((T.length : Nat) : Int).toNat = T.length from rfl, show ((T.length + 1 : Nat) : Int).toNat = T.length + 1 from rfl, e1, d1, ← e1, e2]
        exact rwC_set hxl
      have s2 : sw2 (rwC ((x :: T).reverse ++ y :: R)) ((T.length + 1 : Nat) : Int) = rwC (T.reverse ++ y :: (x :: R)) := by
        unfold sw2
        rw [s1, hjm, show ((T.length : Nat) : Int).toNat = T.length from rfl, show ((T.length + 1 : Nat) : Int).toNat = T.length + 1 from rfl, e2, d2, show (T.reverse ++ [x]) ++ x :: R = T.reverse ++ x :: (x :: R) from by simp]
        exact rwC_set hT
      have hok : okSw (rwC ((x :: T).reverse ++ y :: R)) n ((T.length + 1 : Nat) : Int) = true := by
        unfold okSw
        rw [s1, hjm, b1, b2, c1, c2, show ((T.length : Nat) : Int).toNat = T.length from rfl, show ((T.length + 1 : Nat) : Int).toNat = T.length + 1 from rfl]
        rw [show cellsAt k3 (rwC ((x :: T).reverse ++ y :: R)) (0 + T.length * 3) = rc x by rw [e1]; exact d1]
        rw [show cellsAt k3 (rwC ((x :: T).reverse ++ y :: R)) (0 + (T.length + 1) * 3) = rc y by rw [e2]; exact d2]
        rw [show i3 (rwC ((x :: T).reverse ++ y :: R)) (0 + (T.length + 1) * 3) (rc x) = true by rw [e2]; exact rwC_in hxl]
        rw [show i3 (rwC ((T.reverse ++ [x]) ++ x :: R)) (0 + T.length * 3) (rc y) = true by
          rw [show (T.reverse ++ [x]) ++ x :: R = T.reverse ++ x :: (x :: R) from by simp]; exact rwC_in hT]; rfl
      obtain ⟨m, j, ih⟩ := runSi hn (y := y) T (x :: R) (by rw [← hL]; simp)
      refine ⟨m + 1, j, ?_⟩
      have hi : insR y (x :: T) = x :: insR y T := by
        show (if _ then _ else _) = _
        rw [if_pos hx]
      rw [hi, show (x :: insR y T).reverse ++ R = (insR y T).reverse ++ x :: R from by simp, ← ih]
      refine runS_next ?_
      rw [hj]
      unfold stSi
      rw [hpre, br_t (by rw [hl]; exact decide_eq_true hx), askS_sel hok, hjm, s2]; rfl
    · refine ⟨1, ((T.length + 1 : Nat) : Int), ?_⟩
      have hi : insR y (x :: T) = y :: x :: T := by
        show (if _ then _ else _) = _
        rw [if_neg hx]
      rw [hi, show (y :: x :: T).reverse ++ R = (x :: T).reverse ++ y :: R from by simp]
      refine runS_done ?_
      rw [hj]
      unfold stSi
      rw [hpre, br_f (by rw [hl]; exact decide_eq_false hx)]; rfl
/-- some rows, one after the other -/
def rst (f : Nat → Rw) : Nat → Nat → List Rw
  | _, 0 => []
  | k, d + 1 => f k :: rst f (k + 1) d
theorem rst_len (f : Nat → Rw) : ∀ k d, (rst f k d).length = d
  | _, 0 => rfl
  | k, d + 1 => by
    show (rst f (k + 1) d).length + 1 = _
    rw [rst_len f (k + 1) d]
/-- the sorted portions -/
def srtC (f : Nat → Rw) (n : Nat) : List Value := rwC (srt f n).reverse
theorem runSo {f : Nat → Rw} {n : Nat} (h1 : 1 ≤ n) (hn : n < 1000000) : runS (stSo n) n (1, rwC (rst f 0 n)) = some (0, ((n : Int), srtC f n)) := by
  obtain ⟨k, rfl⟩ : ∃ k, n = k + 1 := ⟨n - 1, by omega⟩
  have key := run_all (step := stSo (k + 1)) (st := fun j => (((j + 1 : Nat) : Int), rwC ((srt f (j + 1)).reverse ++ rst f (j + 1) (k - j)))) (a := 0) k (fun j hj => ?_) ?_
  · have e0 : rwC (rst f 0 (k + 1)) = rwC ((srt f (0 + 1)).reverse ++ rst f (0 + 1) (k - 0)) := rfl
    have e1 : rwC ((srt f (k + 1)).reverse ++ rst f (k + 1) (k - k)) = srtC f (k + 1) := by
      rw [Nat.sub_self]
      show rwC ((srt f (k + 1)).reverse ++ []) = _
      rw [List.append_nil]; rfl
    rw [e1] at key
    exact key
  · have hl : (srt f (j + 1)).length = j + 1 := srt_len _
    have hd : rst f (j + 1) (k - j) = f (j + 1) :: rst f (j + 2) (k - (j + 1)) := by
      rw [show k - j = (k - (j + 1)) + 1 from by omega]; rfl
    obtain ⟨m, j', hr⟩ := runSi hn (y := f (j + 1)) (srt f (j + 1)) (rst f (j + 2) (k - (j + 1))) (by rw [List.length_append, List.length_reverse, List.length_cons, hl, rst_len]; omega)
    rw [hl, ← hd] at hr
    obtain ⟨g1, g2⟩ := endE_eq hr
    unfold stSo inP inE
    dsimp only
    rw [br_t (by rw [ltF_eq]; exact decide_eq_true (by omega)), askS_sel (tru_iff.2 g1), askS_sel rfl, wsucc (by omega), g2]; rfl
  · unfold stSo
    dsimp only
    rw [br_f (by rw [ltF_eq]; exact decide_eq_false (by omega))]; rfl
end Go.Proofs.YtafpmehhdcmllaaGreatDoor.Ways
set_option maxRecDepth 10000
noncomputable section
namespace Go.Proofs.YtafpmehhdcmllaaGreatDoor.Ways
open Go Go.Ex Go.RowKit Go.Ex.Srt
/-! ### curtailed: the first ranked portions get one more -/
noncomputable def B109 : Code := bodyL Tryz.f109 7
noncomputable def sp109 : Nat → Nat → Split := at_ [(109, 31), (109, 13), (181, 13), (181, 30)] .bool (at_ [(181, 14), (181, 31)] (.ints []) no_)
def sy109 : Nat → Nat → Bool := on_ [(109, 28), (109, 32), (109, 33), (109, 37), (109, 39), (109, 41), (109, 100042)]
noncomputable def Tc4 : Tb := ext (ext (ext (ext Tc3 149 (newE (spI 3) [] (heapL deads))) 150 (newE sp150c [] (heapL deads))) 151 (newE sp151 [] (heapL deads))) 154 (newE sp154 [] (heapL deads))
theorem tsc4 {G : Nat} : TSound Tryz.prog G Tc4 := (((tsc3.new (f' := 149) c149).new (f' := 150) c150).new (f' := 151) c151).new (f' := 154) c154
noncomputable def C109 : Cfg := ⟨Tc4, sp109, sy109, noL⟩
section
variable (cs R : List Value) (n l : Nat) (t s : Nat) (ex : Bool)
def hpP (P : List Value) : List (CO × Bool) := [(.dead, false), (.dead, false), (.dead, false), (.dead, false), (.cells cs t s ex, true), (.cells P 216 3 true, true), (.cells R 216 3 false, true)]
def S109 : Shape QS := ⟨46, fun q => ⟨[(5, sl 5 0 n n), (28, sl 6 0 l n), (29, i l), (30, i q.1)], hpP cs R t s ex q.2⟩, fun _ q => (.exit 0, ⟨[(5, sl 5 0 n n)], hpP cs R t s ex q.2⟩)⟩
def ixR (R : List Value) (k : Int) : Int := ce 3 0 R k.toNat
def offR (R : List Value) (k : Int) : Nat := 0 + (ixR R k).toNat * 3 + 1
def st109 (q : QS) : SS QS := .br (ltF q.1 l) (askS (bnd_ q.1 l n) <| askS (cR k3 3 R q.1) <| askS (bnd_ (ixR R q.1) n n) <| askS (isI q.2 (offR R q.1)) <| askS (bnd_ (ixR R q.1) n n) <| askS (in1 q.2 (offR R q.1)) <|
  .next 8 [0, 1, 2, 3, 4, 5, 6] (wrapF .i64 (q.1 + 1), q.2.set (offR R q.1) (i (wrapF .i64 (intO q.2[offR R q.1]? + 1))))) (.done 7 [0, 1, 2, 3, 4, 5, 6] 0)
end
section
variable {cs R : List Value} {n l : Nat} {t s : Nat} {ex : Bool}
theorem hpP_flat {P : List Value} (f1 : cs.all Ex.flat = true) (f2 : R.all Ex.flat = true) (f3 : P.all Ex.flat = true) : ∀ o, (o, true) ∈ hpP cs R t s ex P → FlatO o := by
  intro o ho
  simp [hpP] at ho
  rcases ho with rfl | rfl | rfl
  · exact fun x hx => List.all_eq_true.1 f1 x hx
  · exact fun x hx => List.all_eq_true.1 f3 x hx
  · exact fun x hx => List.all_eq_true.1 f2 x hx
theorem L109 (h : cs.all Ex.flat = true) (h2 : R.all Ex.flat = true) : Loop1 Tryz.prog 5 109 B109 (S109 cs R n l t s ex) 7 (st109 R n l) (fun q => q.2.all Ex.flat = true) :=
  .mk' (C := fun _ => C109) (n := 60) (fun _ _ => tsc4) (fun _ _ => .none) (fun s ro _ => by kernel_rfl) (fun s ro _ => by kernel_rfl) (fun s => by kernel_rfl)
    (fun q q' hg h => by
      rcases br_or' h with h | h
      · have h := ask_or' (ask_or' (ask_or' (ask_or' (ask_or' (ask_or' h)))))
        cases h
        exact set_flat hg rfl
      · cases h) (fun q hq => hpP_flat h h2 hq)
    (fun q j hq _ => ⟨hpP_flat h h2 hq, fun h => by cases h⟩)
end
end Go.Proofs.YtafpmehhdcmllaaGreatDoor.Ways
set_option maxRecDepth 10000
noncomputable section
namespace Go.Proofs.YtafpmehhdcmllaaGreatDoor.Ways
open Go Go.Ex Go.RowKit Go.Ex.Srt
/-! ### curtailed: the whole run -/
section
variable (cs : List Value) (n c : Nat) (lim : Int) (t s : Nat) (ex : Bool) (R : List Value) (l : Nat) (P' : List Value) (j1 j2 : Int)
def poC (cs : List Value) (n : Nat) (lim : Int) : List Value := poL cs (sumW (eI cs) n) lim n
def leC (cs : List Value) (n : Nat) (lim : Int) : Int := leftE cs (sumW (eI cs) n) lim n
noncomputable def LK109 : LTab :=
  loopE (loopE noL 205 1 53 7 Bso ((Sso cs (poC cs n lim) n t s ex).st (1, poC cs n lim)).live ((Sso cs (poC cs n lim) n t s ex).st (1, poC cs n lim)).hp (finO (Sso cs (poC cs n lim) n t s ex) (0, (j1, R)) [0]))
    109 7 46 7 B109 ((S109 cs R n l t s ex).st (0, poC cs n lim)).live ((S109 cs R n l t s ex).st (0, poC cs n lim)).hp (finO (S109 cs R n l t s ex) (0, (j2, P')) [0])
noncomputable def K109 : Cfg := ⟨Tc4, sp109, sy109, LK109 cs n lim t s ex R (leC cs n lim).toNat P' j1 j2⟩
noncomputable def o109 : Out QRes := execO Tryz.prog 5 (K109 cs n lim t s ex R P' j1 j2) 80 (.call 109 ⟨[sl 4 0 n c, i lim]⟩ (heapL (deads ++ [.cells cs t s ex])))
noncomputable def v109T : NT :=
  asN (tru (okI cs n c)) <| .br (leF (sumW (eI cs) n) lim) (asN (tru (CiE cs n c)) (.leaf 5 (.sl n n cs 3 1 false))) <|
  asN (tru (PoE cs n c)) <| asN (tru (CmE k3 3 (poC cs n lim) n n)) <| .br (leF 20 n) .fail <| asN true <| .br (ltF 20 n) .fail <|
  asN (leF 0 0 && (leF 0 (leC cs n lim) && leF (leC cs n lim) n)) <| asN true <| asN (tru (QuE P' n n)) (.leaf 7 (.sl n n (nmL (qI P') n) 3 1 true))
theorem v109 : (o109 cs n c lim t s ex R P' j1 j2).news = v109T cs n c lim P' := by kernel_rfl
theorem x109 : o109 cs n c lim t s ex R P' j1 j2 = (o109 cs n c lim t s ex R P' j1 j2).fix := by kernel_rfl
end
end Go.Proofs.YtafpmehhdcmllaaGreatDoor.Ways
