import Derived.Test.YtafpmehhdcmllaaGreatDoorMr3
import Derived.Test.YtafpmehhdcmllaaGreatDoorEngOrdA
noncomputable section
namespace Go.Proofs.YtafpmehhdcmllaaGreatDoor.Ways
open Go Go.Ex Go.RowKit
/-! ### sums of integers (MarketCurtails, MarketShares) -/
def stS (cs : List Value) (n c l : Nat) (q : Int × Int) : SS (Int × Int) := .br (ltF q.1 n) (askS (bnd_ q.1 n c) <| askS (cB cs (.i .i64) q.1) <| .next l [0, 1, 2, 3, 4] (wrapF .i64 (q.1 + 1), wrapF .i64 (q.2 + eI cs q.1.toNat))) (.done l [0, 1, 2, 3, 4] 0)
theorem runSm {cs : List Value} {n c l : Nat} (h : okI cs n c) : runS (stS cs n c l) (n + 1) (0, 0) = some (0, ((n : Int), sumW (eI cs) n)) := by
  obtain ⟨_, hc, hl, hk⟩ := h
  refine run_all (step := stS cs n c l) (st := fun j => (((j : Nat) : Int), sumW (eI cs) j)) (a := 0) n (fun j hj => ?_) ?_
  · unfold stS
    dsimp only
    rw [br_t (by rw [ltF_eq]; simpa using hj), askS_sel (bnd_t hj hc), askS_sel (by exact hk j hj), show ((j : Nat) : Int).toNat = j from rfl, wsucc (by omega)]; rfl
  · unfold stS
    dsimp only
    rw [br_f (by rw [ltF_eq]; simp)]; rfl
def spS : ESpec := fun al css => match al, css with
  | [.slice (some ⟨4, 0, none⟩) n c], [cs] => some (okI cs n c, i (sumW (eI cs) n))
  | _, _ => none
noncomputable def spSm : Nat → Nat → Split := at_ [(110, 8), (119, 9), (72, 9)] .bool no_
def sySm : Nat → Nat → Bool := on_ [(110, 14), (110, 15), (119, 10), (119, 11), (72, 10), (72, 11)]
noncomputable def B110 : Code := bodyL Tryz.f110 3
section
variable (cs : List Value) (t s n c : Nat) (ex : Bool)
def S110 : Shape (Int × Int) := ⟨18, fun q => ⟨[(0, sl 4 0 n c), (3, i q.2), (4, i q.1)], hpI cs t s ex⟩, fun _ q => (.exit 0, ⟨[(3, i q.2)], hpI cs t s ex⟩)⟩
noncomputable def K110 (r : Nat × Int × Int) : Cfg := ⟨noT, spSm, sySm, loopE noL 110 3 18 5 B110 ((S110 cs t s n c ex).st (0, 0)).live ((S110 cs t s n c ex).st (0, 0)).hp (finO (S110 cs t s n c ex) r [0])⟩
noncomputable def o110 (j a : Int) : Out QRes := execO Tryz.prog 5 (K110 cs t s n c ex (0, j, a)) 40 (.call 110 ⟨[sl 4 0 n c]⟩ (heapL (deads ++ [.cells cs t s ex])))
theorem v110 (j a : Int) : (o110 cs t s n c ex j a).vals = aV true (.leaf (i a)) := by kernel_rfl
theorem x110 (j a : Int) : o110 cs t s n c ex j a = (o110 cs t s n c ex j a).fix := by kernel_rfl
end
theorem L110 {cs : List Value} {t s n c : Nat} {ex : Bool} (h : cs.all Ex.flat = true) : Loop1 Tryz.prog 5 110 B110 (S110 cs t s n c ex) 5 (stS cs n c 5) (fun _ => True) :=
  .mk' (C := fun _ => ⟨noT, spSm, sySm, noL⟩) (n := 40) (fun _ _ => .none) (fun _ _ => .none) (fun s ro _ => by kernel_rfl) (fun s ro _ => by kernel_rfl) (fun s => by kernel_rfl) (fun _ _ _ _ => trivial) (fun _ _ => hpI_flat h)
    (fun s j _ _ => ⟨hpI_flat h, fun h => by cases h⟩)
theorem c110 : ∀ al css os p v, spS al css = some (p, v) → p → Blks css os → (∀ cs ∈ css, cs.all Ex.flat = true) ∧ clean 6 v = true ∧ ∃ H', Sound Tryz.prog (gl + css.length) (.call 110 ⟨al⟩ (heapL (deads ++ os))) (.val v H') := by
  intro al css os p v hs hp hb
  unfold spS at hs
  split at hs
  case h_2 => cases hs
  rename_i n c cs
  cases hs
  obtain ⟨t, s, ex, rfl⟩ := blks1 hb
  refine ⟨by simpa using hp.1, rfl, ?_⟩
  have hL := (L110 (t := t) (s := s) (n := n) (c := c) (ex := ex) hp.1).table (id := 3) .none (by decide) trivial (runSm hp) (by kernel_rfl) [0]
  obtain ⟨H', h'⟩ := Out.vals_sel (x110 cs t s n c ex n (sumW (eI cs) n)) (v := i (sumW (eI cs) n)) (by rw [v110, aV_sel rfl]; rfl)
  exact ⟨H', execO_sound (C := K110 cs t s n c ex (0, (n : Int), sumW (eI cs) n)) .none hL 40 _ _ h'⟩
noncomputable def B119 : Code := bodyL Tryz.f119 3
section
variable (cs : List Value) (t s n c : Nat) (ex : Bool)
def S119 : Shape (Int × Int) := ⟨17, fun q => ⟨[(3, i q.2), (6, sl 4 0 n c), (7, i n), (8, i q.1)], hpI cs t s ex⟩, fun _ q => (.exit 0, ⟨[(3, i q.2)], hpI cs t s ex⟩)⟩
noncomputable def K119 (r : Nat × Int × Int) : Cfg := ⟨noT, spSm, sySm, loopE noL 119 3 17 5 B119 ((S119 cs t s n c ex).st (0, 0)).live ((S119 cs t s n c ex).st (0, 0)).hp (finO (S119 cs t s n c ex) r [0])⟩
noncomputable def o119 (j a : Int) : Out QRes := execO Tryz.prog 5 (K119 cs t s n c ex (0, j, a)) 40 (.call 119 ⟨[sl 4 0 n c]⟩ (heapL (deads ++ [.cells cs t s ex])))
theorem v119 (j a : Int) : (o119 cs t s n c ex j a).vals = aV true (.leaf (i a)) := by kernel_rfl
theorem x119 (j a : Int) : o119 cs t s n c ex j a = (o119 cs t s n c ex j a).fix := by kernel_rfl
end
theorem L119 {cs : List Value} {t s n c : Nat} {ex : Bool} (h : cs.all Ex.flat = true) : Loop1 Tryz.prog 5 119 B119 (S119 cs t s n c ex) 5 (stS cs n c 5) (fun _ => True) :=
  .mk' (C := fun _ => ⟨noT, spSm, sySm, noL⟩) (n := 40) (fun _ _ => .none) (fun _ _ => .none) (fun s ro _ => by kernel_rfl) (fun s ro _ => by kernel_rfl) (fun s => by kernel_rfl) (fun _ _ _ _ => trivial) (fun _ _ => hpI_flat h)
    (fun s j _ _ => ⟨hpI_flat h, fun h => by cases h⟩)
theorem c119 : ∀ al css os p v, spS al css = some (p, v) → p → Blks css os → (∀ cs ∈ css, cs.all Ex.flat = true) ∧ clean 6 v = true ∧ ∃ H', Sound Tryz.prog (gl + css.length) (.call 119 ⟨al⟩ (heapL (deads ++ os))) (.val v H') := by
  intro al css os p v hs hp hb
  unfold spS at hs
  split at hs
  case h_2 => cases hs
  rename_i n c cs
  cases hs
  obtain ⟨t, s, ex, rfl⟩ := blks1 hb
  refine ⟨by simpa using hp.1, rfl, ?_⟩
  have hL := (L119 (t := t) (s := s) (n := n) (c := c) (ex := ex) hp.1).table (id := 3) .none (by decide) trivial (runSm hp) (by kernel_rfl) [0]
  obtain ⟨H', h'⟩ := Out.vals_sel (x119 cs t s n c ex n (sumW (eI cs) n)) (v := i (sumW (eI cs) n)) (by rw [v119, aV_sel rfl]; rfl)
  exact ⟨H', execO_sound (C := K119 cs t s n c ex (0, (n : Int), sumW (eI cs) n)) .none hL 40 _ _ h'⟩
noncomputable def B72 : Code := bodyL Tryz.f72 3
section
variable (cs : List Value) (t s n c : Nat) (ex : Bool)
def S72 : Shape (Int × Int) := ⟨17, fun q => ⟨[(3, i q.2), (6, sl 4 0 n c), (7, i n), (8, i q.1)], hpI cs t s ex⟩, fun _ q => (.exit 0, ⟨[(3, i q.2)], hpI cs t s ex⟩)⟩
noncomputable def K72 (r : Nat × Int × Int) : Cfg := ⟨noT, spSm, sySm, loopE noL 72 3 17 5 B72 ((S72 cs t s n c ex).st (0, 0)).live ((S72 cs t s n c ex).st (0, 0)).hp (finO (S72 cs t s n c ex) r [0])⟩
noncomputable def o72 (j a : Int) : Out QRes := execO Tryz.prog 5 (K72 cs t s n c ex (0, j, a)) 40 (.call 72 ⟨[sl 4 0 n c]⟩ (heapL (deads ++ [.cells cs t s ex])))
theorem v72 (j a : Int) : (o72 cs t s n c ex j a).vals = aV true (.leaf (i a)) := by kernel_rfl
theorem x72 (j a : Int) : o72 cs t s n c ex j a = (o72 cs t s n c ex j a).fix := by kernel_rfl
end
theorem L72 {cs : List Value} {t s n c : Nat} {ex : Bool} (h : cs.all Ex.flat = true) : Loop1 Tryz.prog 5 72 B72 (S72 cs t s n c ex) 5 (stS cs n c 5) (fun _ => True) :=
  .mk' (C := fun _ => ⟨noT, spSm, sySm, noL⟩) (n := 40) (fun _ _ => .none) (fun _ _ => .none) (fun s ro _ => by kernel_rfl) (fun s ro _ => by kernel_rfl) (fun s => by kernel_rfl) (fun _ _ _ _ => trivial) (fun _ _ => hpI_flat h)
    (fun s j _ _ => ⟨hpI_flat h, fun h => by cases h⟩)
theorem c72 : ∀ al css os p v, spS al css = some (p, v) → p → Blks css os → (∀ cs ∈ css, cs.all Ex.flat = true) ∧ clean 6 v = true ∧ ∃ H', Sound Tryz.prog (gl + css.length) (.call 72 ⟨al⟩ (heapL (deads ++ os))) (.val v H') := by
  intro al css os p v hs hp hb
  unfold spS at hs
  split at hs
  case h_2 => cases hs
  rename_i n c cs
  cases hs
  obtain ⟨t, s, ex, rfl⟩ := blks1 hb
  refine ⟨by simpa using hp.1, rfl, ?_⟩
  have hL := (L72 (t := t) (s := s) (n := n) (c := c) (ex := ex) hp.1).table (id := 3) .none (by decide) trivial (runSm hp) (by kernel_rfl) [0]
  obtain ⟨H', h'⟩ := Out.vals_sel (x72 cs t s n c ex n (sumW (eI cs) n)) (v := i (sumW (eI cs) n)) (by rw [v72, aV_sel rfl]; rfl)
  exact ⟨H', execO_sound (C := K72 cs t s n c ex (0, (n : Int), sumW (eI cs) n)) .none hL 40 _ _ h'⟩
end Go.Proofs.YtafpmehhdcmllaaGreatDoor.Ways
noncomputable section
namespace Go.Proofs.YtafpmehhdcmllaaGreatDoor.Ways
open Go Go.Ex Go.RowKit
/-- the first region of this number -/
def regC (id : Nat) : Nat → Code → Array Oper
  | 0, _ => #[]
  | k + 1, c => match c with
    | .region j o _ => cond (Nat.beq j id) o #[]
    | .seq a b => cond (Nat.beq (regC id k a).size 0) (regC id k b) (regC id k a)
    | .cond _ a b => cond (Nat.beq (regC id k a).size 0) (regC id k b) (regC id k a)
    | .block _ a => regC id k a
    | .loop a => regC id k a
    | .scope a => regC id k a
    | _ => #[]
theorem mixC : Tryz.prog.follows .mixedOrders = true := by kernel_rfl
end Go.Proofs.YtafpmehhdcmllaaGreatDoor.Ways
set_option maxRecDepth 10000
noncomputable section
namespace Go.Proofs.YtafpmehhdcmllaaGreatDoor.Ways
open Go Go.Ex Go.RowKit
/-! ### portions of a limit -/
noncomputable def Tc : Tb := ext (ext (ext noT 110 (autoE spS [] (heapL deads))) 119 (autoE spS [] (heapL deads))) 72 (autoE spS [] (heapL deads))
theorem tsc {G : Nat} : TSound Tryz.prog G Tc := ((TSound.none.auto c110).auto c119).auto c72
noncomputable def B150 : Code := bodyL Tryz.f150 4
noncomputable def sp150 : Nat → Nat → Split := at_ [(150, 20)] .bool no_
def sy150 : Nat → Nat → Bool := on_ [(150, 13), (150, 22), (150, 23), (150, 31), (150, 36), (150, 38), (150, 100038), (150, 42), (150, 44)]
noncomputable def Cp : Cfg := ⟨Tc, sp150, sy150, noL⟩
def hp150 (cs : List Value) (t s : Nat) (ex : Bool) (out : List Value) : List (CO × Bool) := [(.dead, false), (.dead, false), (.dead, false), (.dead, false), (.cells cs t s ex, true), (.cells out 216 3 true, true)]
noncomputable def O150 : Array Oper := regC 6 60 (Tryz.f150.body.getD .skip)
theorem size150 : O150.size = 16 := by kernel_rfl
/-- an energy's part of the limit, and the remainder -/
def qtE (lim sum e : Int) : Int := wrapF .i64 ((wrapF .i64 (e * lim)).tdiv sum)
def rmE (lim sum e : Int) : Int := (wrapF .i64 (e * lim)).tmod sum
def set3 (out : List Value) (k : Nat) (l : List Value) : List Value := ((out.set k (l.getD 0 (i 0))).set (k + 1) (l.getD 1 (i 0))).set (k + 2) (l.getD 2 (i 0))
def in3 (out : List Value) (k : Nat) (a b : Value) : Bool := decide (k < out.length) && (decide (k + 1 < (out.set k a).length) && (decide (k + 1 + 1 < ((out.set k a).set (k + 1) b).length) && true))
section
variable (cs out : List Value) (n c : Nat) (j left sum lim : Int) (t s : Nat) (ex : Bool)
def poR (lim sum e j : Int) : List Value := [i j, i (qtE lim sum e), i (rmE lim sum e)]
noncomputable def sPo : SymS where
  live0 := [(1, i lim), (6, sl 5 0 n n), (7, i sum), (8, i left), (17, sl 4 0 n c), (18, i n), (19, i j), (9, i j), (10, i (eI cs j.toNat))]
  S := [(24, 0, sl 5 0 n n), (25, 1, i j), (26, 2, i j), (27, 3, i (eI cs j.toNat)), (28, 4, i lim), (29, 5, i (wrapF .i64 (eI cs j.toNat * lim))), (30, 6, i sum), (31, 7, i (qtE lim sum (eI cs j.toNat))), (32, 8, i (eI cs j.toNat)), (33, 9, i lim), (34, 10, i (wrapF .i64 (eI cs j.toNat * lim))), (35, 11, i sum), (36, 12, i (rmE lim sum (eI cs j.toNat))), (37, 13, ag (poR lim sum (eI cs j.toNat) j)), (38, 14, pt 5 (0 + j.toNat * 3))]
  hp0 := hpI cs t s ex
  A := [(1000, .cells out 216 3 true, 15, .cells (set3 out (0 + j.toNat * 3) (poR lim sum (eI cs j.toNat) j)) 216 3 true)]
def cdPo (k : Nat) : List Bool := match k with
  | 7 => [!eqF sum 0]
  | 12 => [!eqF sum 0]
  | 14 => [bnd_ j n n]
  | 15 => [in3 out (0 + j.toNat * 3) (i j) (i (qtE lim sum (eI cs j.toNat)))]
  | _ => []
end
def rhoPo (_ : Nat) : List Nat := List.range 6
def lenPo (_ : Nat) : Nat := 6
def ansPo (k : Nat) : List Bool := match k with
  | 7 => [true]
  | 12 => [true]
  | 14 => [true]
  | 15 => [true]
  | _ => []
section
variable (cs out : List Value) (n c : Nat) (j left sum lim : Int) (t s : Nat) (ex : Bool)
theorem fixPo : ∀ B : List Bool, B.length = O150.size → (List.range O150.size).map (fun k => outV noW Tryz.prog 5 Cp 150 O150 49 (sPo cs out n c j left sum lim t s ex) (forceN O150.size (preN O150) k B) k) = (List.range O150.size).map fun k => (outV noW Tryz.prog 5 Cp 150 O150 49 (sPo cs out n c j left sum lim t s ex) (forceN O150.size (preN O150) k B) k).fix
  | [x0, x1, x2, x3, x4, x5, x6, x7, x8, x9, x10, x11, x12, x13, x14, x15], _ => by kernel_rfl
theorem obsPo : ∀ B : List Bool, B.length = O150.size → (List.range O150.size).map (fun k => obsV noW Tryz.prog 5 Cp 150 O150 49 (sPo cs out n c j left sum lim t s ex) rhoPo ansPo (forceN O150.size (preN O150) k B) k) = (List.range O150.size).map fun k => expY 49 (sPo cs out n c j left sum lim t s ex) rhoPo (cdPo cs out n j sum lim) lenPo (forceN O150.size (preN O150) k B) k
  | [x0, x1, x2, x3, x4, x5, x6, x7, x8, x9, x10, x11, x12, x13, x14, x15], _ => by kernel_rfl
end
section
variable {cs out : List Value} {n c : Nat} {j left sum lim : Int} {t s : Nat} {ex : Bool}
theorem set3_flat {out : List Value} {k : Nat} {a b d : Int} (h : out.all Ex.flat = true) : (set3 out k [i a, i b, i d]).all Ex.flat = true := set_flat (set_flat (set_flat h rfl) rfl) rfl
def okPo (out : List Value) (n : Nat) (j q sum : Int) : Bool := !eqF sum 0 && (bnd_ j n n && in3 out (0 + j.toNat * 3) (i j) (i q))
theorem cdPo_ok (h : okPo out n j (qtE lim sum (eI cs j.toNat)) sum = true) : ∀ k, cdPo cs out n j sum lim k = (ansPo k).take (cdPo cs out n j sum lim k).length := by
  unfold okPo at h
  rw [Bool.and_eq_true, Bool.and_eq_true] at h
  obtain ⟨h1, h2, h3⟩ := h
  intro k
  unfold cdPo ansPo
  split
  · rw [h1]; rfl
  · rw [h1]; rfl
  · rw [h2]; rfl
  · rw [h3]; rfl
  · rfl
theorem ordPo (f1 : cs.all Ex.flat = true) (f2 : out.all Ex.flat = true) (h : okPo out n j (qtE lim sum (eI cs j.toNat)) sum = true) : Orders (selfA (qS noW)) Tryz.prog 5 O150 6 (fun m => m < 2 ^ O150.size ∧ GoodY O150 (bitsL O150.size m)) (fun m => absT (tmL 49 ((sPo cs out n c j left sum lim t s ex).live (bitsL O150.size m)))) (fun m => heapL ((sPo cs out n c j left sum lim t s ex).hp (bitsL O150.size m))) (2 ^ O150.size - 1) :=
  sym_ofW (fixPo cs out n c j left sum lim t s ex) (obsPo cs out n c j left sum lim t s ex) (cdPo_ok h) (by kernel_rfl) (by kernel_rfl) (by kernel_rfl) (by kernel_rfl) (by kernel_rfl) (hpI_flat f1)
    (fun q hq => by
      simp only [sPo, List.mem_cons, List.not_mem_nil, or_false] at hq
      subst hq
      exact ⟨fun x hx => List.all_eq_true.1 f2 x hx, fun x hx => List.all_eq_true.1 (set3_flat f2) x hx⟩)
end
section
variable (cs out : List Value) (n c : Nat) (j left sum lim : Int) (t s : Nat) (ex : Bool)
noncomputable def tmPo : TM := tmL 49 ((sPo cs out n c j left sum lim t s ex).live (List.replicate 16 true))
noncomputable def hPo : CH := heapL ((sPo cs out n c j left sum lim t s ex).hp (List.replicate 16 true))
theorem endPo : bitsL O150.size (2 ^ O150.size - 1) = List.replicate 16 true := by kernel_rfl
theorem padPo : heapL ((sPo cs out n c j left sum lim t s ex).hp (bitsL O150.size 0)) = heapL ((hp150 cs t s ex out).map (·.1) ++ List.replicate 0 .dead) := by kernel_rfl
theorem zeroPo : tmL 49 ((sPo cs out n c j left sum lim t s ex).live (bitsL O150.size 0)) = tmL 49 (sPo cs out n c j left sum lim t s ex).live0 := by kernel_rfl
variable {cs out n c j left sum lim t s ex}
theorem sndPo (f1 : cs.all Ex.flat = true) (f2 : out.all Ex.flat = true) (h : okPo out n j (qtE lim sum (eI cs j.toNat)) sum = true) (ro : Option Nat) {tm0 : Array Value} {H0 : CH} (hk : H0.length = 6) (hst : Restate 6 tm0 H0 (absT (tmL 49 (sPo cs out n c j left sum lim t s ex).live0)) (heapL ((hp150 cs t s ex out).map (·.1)))) :
    Sound Tryz.prog 5 (.code (.region 6 O150 true) ro tm0 H0 []) (.ex .normal (absT (tmPo cs out n c j left sum lim t s ex)) (hPo cs out n c j left sum lim t s ex) []) := by
  have ho := ordPo (c := c) (left := left) (t := t) (s := s) (ex := ex) f1 f2 h
  have hp := padPo cs out n c j left sum lim t s ex
  have hz := zeroPo cs out n c j left sum lim t s ex
  have h0 := goodY_zero O150
  unfold tmPo hPo
  rw [← endPo]
  rw [← hz] at hst
  generalize sPo cs out n c j left sum lim t s ex = s at *
  rw [← hk] at ho hst
  exact orders_sound2 (tmS := fun m => absT (tmL 49 (s.live (bitsL O150.size m)))) (HS := fun m => heapL (s.hp (bitsL O150.size m))) (mF := 2 ^ O150.size - 1) (qS_selfSound noW_sound) mixC ho (by rw [hk]; decide) h0 hp hst ro
end
section
variable (cs out : List Value) (n c : Nat) (j left sum lim : Int) (t s : Nat) (ex : Bool)
noncomputable def LPo (L : LTab) : LTab := regE L 150 6 49 6 O150 (sPo cs out n c j left sum lim t s ex).live0 (hp150 cs t s ex out) (.br (okPo out n j (qtE lim sum (eI cs j.toNat)) sum) (.leaf (.ex .normal (tmPo cs out n c j left sum lim t s ex) (hPo cs out n c j left sum lim t s ex) [])) .fail)
theorem hp150_flat {cs out : List Value} {t s : Nat} {ex : Bool} (f1 : cs.all Ex.flat = true) (f2 : out.all Ex.flat = true) : ∀ o, (o, true) ∈ hp150 cs t s ex out → FlatO o := by
  intro o ho
  simp [hp150] at ho
  rcases ho with rfl | rfl
  · exact fun x hx => List.all_eq_true.1 f1 x hx
  · exact fun x hx => List.all_eq_true.1 f2 x hx
theorem lsPo {L : LTab} (hL : LSound Tryz.prog 5 L) (f1 : cs.all Ex.flat = true) (f2 : out.all Ex.flat = true) : LSound Tryz.prog 5 (LPo cs out n c j left sum lim t s ex L) := by
  refine LSound.region hL (by kernel_rfl) (hp150_flat f1 f2) fun r hr ro tm0 H0 hk hst => ?_
  cases h : okPo out n j (qtE lim sum (eI cs j.toNat)) sum with
  | false => rw [h] at hr; cases hr
  | true =>
    rw [h] at hr
    cases hr
    exact sndPo f1 f2 h ro hk hst
end
end Go.Proofs.YtafpmehhdcmllaaGreatDoor.Ways
noncomputable section
namespace Go.Proofs.YtafpmehhdcmllaaGreatDoor.Ways
open Go Go.Ex Go.RowKit
/-! ### portions of a limit: the loop -/
abbrev QPo := Int × Int × List Value
section
variable (cs : List Value) (n c : Nat) (sum lim : Int) (t s : Nat) (ex : Bool)
noncomputable def CPo (q : QPo) : Cfg := ⟨Tc, sp150, sy150, LPo cs q.2.2 n c q.1 q.2.1 sum lim t s ex noL⟩
def S150 : Shape QPo := ⟨49, fun q => ⟨[(1, i lim), (6, sl 5 0 n n), (7, i sum), (8, i q.2.1), (17, sl 4 0 n c), (18, i n), (19, i q.1)], hp150 cs t s ex q.2.2⟩, fun _ q => (.exit 0, ⟨[(6, sl 5 0 n n), (8, i q.2.1)], hp150 cs t s ex q.2.2⟩)⟩
def nxPo (q : QPo) : List Value := set3 q.2.2 (0 + q.1.toNat * 3) (poR lim sum (eI cs q.1.toNat) q.1)
def st150 (q : QPo) : SS QPo := .br (ltF q.1 n) (askS (bnd_ q.1 n c) <| askS (cB cs (.i .i64) q.1) <| askS (okPo q.2.2 n q.1 (qtE lim sum (eI cs q.1.toNat)) sum) <| askS (bnd_ q.1 n n) <| askS (isI (nxPo cs sum lim q) (0 + q.1.toNat * 3 + 1)) <|
  .next 6 [0, 1, 2, 3, 4, 5] (wrapF .i64 (q.1 + 1), wrapF .i64 (q.2.1 - intO (nxPo cs sum lim q)[0 + q.1.toNat * 3 + 1]?), nxPo cs sum lim q)) (.done 6 [0, 1, 2, 3, 4, 5] 0)
end
theorem L150 {cs : List Value} {n c : Nat} {sum lim : Int} {t s : Nat} {ex : Bool} (h : cs.all Ex.flat = true) : Loop1 Tryz.prog 5 150 B150 (S150 cs n c sum lim t s ex) 6 (st150 cs n c sum lim) (fun q => q.2.2.all Ex.flat = true) :=
  .mk' (C := CPo cs n c sum lim t s ex) (n := 60) (fun _ _ => tsc) (fun q hq => lsPo cs q.2.2 n c q.1 q.2.1 sum lim t s ex .none h hq) (fun q ro _ => by kernel_rfl) (fun q ro _ => by kernel_rfl) (fun q => by kernel_rfl)
    (fun q q' hg h => by
      rcases br_or' h with h | h
      · have h := ask_or' (ask_or' (ask_or' (ask_or' (ask_or' h))))
        cases h
        exact set3_flat hg
      · cases h) (fun q hq => hp150_flat h hq)
    (fun q k hq _ => ⟨hp150_flat h hq, fun h => by cases h⟩)
end Go.Proofs.YtafpmehhdcmllaaGreatDoor.Ways
noncomputable section
namespace Go.Proofs.YtafpmehhdcmllaaGreatDoor.Ways
open Go Go.Ex Go.RowKit
/-! ### portions of a limit: what the loop comes to -/
theorem set3_app {A B : List Value} {k : Nat} {a b d x y z : Value} (h : A.length = k) : set3 (A ++ x :: y :: z :: B) k [a, b, d] = A ++ a :: b :: d :: B := by
  unfold set3
  rw [set_app (by omega), h, Nat.sub_self]
  show ((A ++ a :: y :: z :: B).set (k + 1) b).set (k + 2) d = _
  rw [set_app (by omega), h, show k + 1 - k = 1 from by omega]
  show (A ++ a :: b :: z :: B).set (k + 2) d = _
  rw [set_app (by omega), h, show k + 2 - k = 2 from by omega]; rfl
/-- the rows of the first j energies -/
def poL (cs : List Value) (sum lim : Int) : Nat → List Value
  | 0 => []
  | j + 1 => poL cs sum lim j ++ poR lim sum (eI cs j) (j : Int)
theorem poL_len (cs : List Value) (sum lim : Int) : ∀ j, (poL cs sum lim j).length = j * 3
  | 0 => rfl
  | j + 1 => by
    show (poL cs sum lim j ++ poR lim sum (eI cs j) (j : Int)).length = _
    rw [List.length_append, poL_len cs sum lim j]
    show j * 3 + 3 = (j + 1) * 3
    omega
theorem poL_flat (cs : List Value) (sum lim : Int) : ∀ j, (poL cs sum lim j).all Ex.flat = true
  | 0 => rfl
  | j + 1 => app_flat (poL_flat cs sum lim j) rfl
def leftE (cs : List Value) (sum lim : Int) : Nat → Int
  | 0 => lim
  | j + 1 => wrapF .i64 (leftE cs sum lim j - qtE lim sum (eI cs j))
theorem in3_t {out : List Value} {k : Nat} {a b : Value} (h : k + 2 < out.length) : in3 out k a b = true := by
  unfold in3
  rw [decide_eq_true (by omega), List.length_set, decide_eq_true (by omega), List.length_set, List.length_set, decide_eq_true (by omega)]; rfl
theorem run150 {cs Z : List Value} {n c : Nat} {sum lim : Int} (h : okI cs n c) (hs : sum ≠ 0) (hZ : Z.length = n * 3) (hn : n < 1000000) : runS (st150 cs n c sum lim) (n + 1) (0, lim, Z) = some (0, ((n : Int), leftE cs sum lim n, poL cs sum lim n)) := by
  obtain ⟨_, hc, hl, hk⟩ := h
  have key := run_all (step := st150 cs n c sum lim) (st := fun j => (((j : Nat) : Int), leftE cs sum lim j, poL cs sum lim j ++ Z.drop (j * 3))) (a := 0) n (fun j hj => ?_) ?_
  · have e1 : poL cs sum lim n ++ Z.drop (n * 3) = poL cs sum lim n := by rw [List.drop_of_length_le (by rw [hZ]; exact Nat.le_refl _), List.append_nil]
    rw [e1] at key
    exact key
  · have hfl : (poL cs sum lim j).length = j * 3 := poL_len _ _ _ _
    have hdl : (Z.drop (j * 3)).length = n * 3 - j * 3 := by rw [List.length_drop, hZ]
    obtain ⟨x, y, z, B, hB⟩ : ∃ x y z B, Z.drop (j * 3) = x :: y :: z :: B := by
      match hd : Z.drop (j * 3), hdl with
      | [], hdl => simp at hdl; omega
      | [x], hdl => simp at hdl; omega
      | [x, y], hdl => simp at hdl; omega
      | x :: y :: z :: B, _ => exact ⟨x, y, z, B, rfl⟩
    have hB2 : Z.drop ((j + 1) * 3) = B := by
      rw [show (j + 1) * 3 = j * 3 + 3 from by omega, ← List.drop_drop, hB]; rfl
    have hset : nxPo cs sum lim (((j : Nat) : Int), leftE cs sum lim j, poL cs sum lim j ++ Z.drop (j * 3)) = poL cs sum lim (j + 1) ++ Z.drop ((j + 1) * 3) := by
      unfold nxPo
      show set3 (poL cs sum lim j ++ Z.drop (j * 3)) (0 + j * 3) (poR lim sum (eI cs j) (j : Int)) = _
      unfold poR
      rw [hB, set3_app (by omega), hB2]
      show _ = poL cs sum lim j ++ [i (j : Int), i (qtE lim sum (eI cs j)), i (rmE lim sum (eI cs j))] ++ B
      rw [List.append_assoc]; rfl
    have hget : (poL cs sum lim (j + 1) ++ Z.drop ((j + 1) * 3))[0 + j * 3 + 1]? = some (i (qtE lim sum (eI cs j))) := by
      show ((poL cs sum lim j ++ poR lim sum (eI cs j) (j : Int)) ++ Z.drop ((j + 1) * 3))[0 + j * 3 + 1]? = _
      rw [List.append_assoc, List.getElem?_append_right (by omega), hfl, show 0 + j * 3 + 1 - j * 3 = 1 from by omega]; rfl
    have hb : bnd_ (j : Int) n n = true := bnd_t hj (Nat.le_refl n)
    have hok : okPo (poL cs sum lim j ++ Z.drop (j * 3)) n (j : Int) (qtE lim sum (eI cs j)) sum = true := by
      unfold okPo
      rw [ne_t hs, hb, show ((j : Nat) : Int).toNat = j from rfl, in3_t (by rw [List.length_append, hfl, hdl]; omega)]; rfl
    have hI : isI (poL cs sum lim (j + 1) ++ Z.drop ((j + 1) * 3)) (0 + j * 3 + 1) = true := by
      unfold isI
      rw [hget]; rfl
    unfold st150
    rw [hset]
    dsimp only
    rw [show ((j : Nat) : Int).toNat = j from rfl, br_t (by rw [ltF_eq]; simpa using hj), askS_sel (bnd_t hj hc), askS_sel (by exact hk j hj), askS_sel hok, askS_sel hb, askS_sel hI, hget, wsucc (by omega)]; rfl
  · unfold st150
    dsimp only
    rw [br_f (by rw [ltF_eq]; simp)]; rfl
end Go.Proofs.YtafpmehhdcmllaaGreatDoor.Ways
noncomputable section
namespace Go.Proofs.YtafpmehhdcmllaaGreatDoor.Ways
open Go Go.Ex Go.RowKit
/-! ### portions of a limit: the contract -/
def z3 (n : Nat) : List Value := (zeroRow #[i 0, i 0, i 0] ((n : Int).toNat * 3)).toList
theorem z3_len (n : Nat) : (z3 n).length = n * 3 := by
  unfold z3 zeroRow
  simp
theorem z3_flat (n : Nat) : (z3 n).all Ex.flat = true := by
  refine List.all_eq_true.2 fun v hv => ?_
  unfold z3 zeroRow at hv
  simp only [Array.toList_map, List.mem_map, Array.mem_toList_iff, Array.mem_range] at hv
  obtain ⟨k, _, rfl⟩ := hv
  have hk : k % (#[i 0, i 0, i 0] : Array Value).size < 3 := Nat.mod_lt _ (by decide)
  generalize k % (#[i 0, i 0, i 0] : Array Value).size = m at hk
  match m, hk with
  | 0, _ => rfl
  | 1, _ => rfl
  | 2, _ => rfl
section
variable (cs : List Value) (n c : Nat) (lim : Int) (t s : Nat) (ex : Bool)
noncomputable def K150 (q : QPo) : Cfg := ⟨Tc, no_, on_ [(150, 13)], loopE noL 150 4 49 6 B150 ((S150 cs n c (sumW (eI cs) n) lim t s ex).st (0, lim, z3 n)).live ((S150 cs n c (sumW (eI cs) n) lim t s ex).st (0, lim, z3 n)).hp (finO (S150 cs n c (sumW (eI cs) n) lim t s ex) (0, q) [0])⟩
noncomputable def o150 (q : QPo) : Out QRes := execO Tryz.prog 5 (K150 cs n c lim t s ex q) 60 (.call 150 ⟨[sl 4 0 n c, i lim]⟩ (heapL (deads ++ [.cells cs t s ex])))
theorem v150 (j l : Int) (out : List Value) : (o150 cs n c lim t s ex (j, l, out)).news = .br (leF 0 n && (leF n n && leF n 1048576)) (asN (tru (okI cs n c)) (.br true (.leaf 5 (.tup n n out 216 3 true (i l))) .fail)) .fail := by kernel_rfl
theorem x150 (j l : Int) (out : List Value) : o150 cs n c lim t s ex (j, l, out) = (o150 cs n c lim t s ex (j, l, out)).fix := by kernel_rfl
end
def PoE (cs : List Value) (n c : Nat) : Prop := okI cs n c ∧ sumW (eI cs) n ≠ 0 ∧ n < 1000000
def sp150c : NSpec := fun al css => match al, css with
  | [.slice (some ⟨4, 0, none⟩) n c, .int .i64 lim], [cs] => some (PoE cs n c, .tup n n (poL cs (sumW (eI cs) n) lim n) 216 3 true (i (leftE cs (sumW (eI cs) n) lim n)))
  | _, _ => none
theorem c150 : ∀ al css os p v, sp150c al css = some (p, v) → p → Blks css os → (∀ cs ∈ css, cs.all Ex.flat = true) ∧ v.Ok Tryz.prog 150 al deads os (gl + css.length) := by
  intro al css os p v hs hp hb
  unfold sp150c at hs
  split at hs
  case h_2 => cases hs
  rename_i n c lim cs
  cases hs
  obtain ⟨t, s, ex, rfl⟩ := blks1 hb
  obtain ⟨p1, p2, p3⟩ := hp
  refine ⟨by simpa using p1.1, ?_⟩
  have hL := (L150 (cs := cs) (n := n) (c := c) (sum := sumW (eI cs) n) (lim := lim) (t := t) (s := s) (ex := ex) p1.1).table (id := 4) (s0 := (0, lim, z3 n)) .none (by decide) (z3_flat n) (run150 p1 p2 (z3_len n) p3) (by kernel_rfl) [0]
  refine news_ok (C := K150 cs n c lim t s ex ((n : Int), leftE cs (sumW (eI cs) n) lim n, poL cs (sumW (eI cs) n) lim n)) (n := 60) tsc hL (x150 cs n c lim t s ex _ _ _) (b := 5) ((congrArg NT.sel (v150 cs n c lim t s ex _ _ _)).trans ?_) (show 5 ≤ 5 by decide) ⟨poL_flat _ _ _ _, rfl⟩
  have h1 : (leF 0 n && (leF n n && leF n 1048576)) = true := by
    rw [leF_eq, leF_eq, leF_eq, decide_eq_true (by omega), decide_eq_true (by omega), decide_eq_true (by omega)]; rfl
  rw [nb_t h1, asN_t (tru_iff.2 p1)]; rfl
end Go.Proofs.YtafpmehhdcmllaaGreatDoor.Ways
noncomputable section
namespace Go.Proofs.YtafpmehhdcmllaaGreatDoor.Ways
open Go Go.Ex Go.RowKit
/-! ### comparing two portions; copies that are made by append -/
def cmE (x y : Int) : Int := if x < y then -1 else if y < x then 1 else 0
theorem p207 (x : Int) : Pure Tryz.prog Hd 207 [i x] (b_ false) := by
  refine pure_run (C := ⟨Tc, no_, off_, noL⟩) (G := 4) 30 (.leaf (b_ (!eqF x x))) tsc .none (by decide) hd_len rfl (by kernel_rfl) (by kernel_rfl) ?_
  rw [eqF_d]; simp [VT.sel]
def s207 : List Value → Option Value
  | [.int .i64 _] => some (b_ false)
  | _ => none
noncomputable def Tc1 : Tb := ext Tc 207 (pureE s207 [] Hd)
theorem tsc1 {G : Nat} : TSound Tryz.prog G Tc1 := tsc.pure hd_vars fun args v h => by
  unfold s207 at h
  split at h
  · cases h; exact p207 _
  · cases h
theorem p182 (x y : Int) : Pure Tryz.prog Hd 182 [i x, i y] (i (cmE x y)) := by
  refine pure_run (C := ⟨Tc1, at_ [(182, 16), (182, 19)] .bool no_, off_, noL⟩) (G := 4) 60 (.br (ltF x y) (.leaf (i (-1))) (.br (ltF y x) (.leaf (i 1)) (.leaf (i 0)))) tsc1 .none (by decide) hd_len rfl (by kernel_rfl) (by kernel_rfl) ?_
  unfold cmE
  rw [ltF_eq, ltF_eq]
  by_cases h1 : x < y <;> by_cases h2 : y < x <;> simp [VT.sel, h1, h2]
def s182 : List Value → Option Value
  | [.int .i64 x, .int .i64 y] => some (i (cmE x y))
  | _ => none
noncomputable def Tc2 : Tb := ext Tc1 182 (pureE s182 [] Hd)
theorem tsc2 {G : Nat} : TSound Tryz.prog G Tc2 := tsc1.pure hd_vars fun args v h => by
  unfold s182 at h
  split at h
  · cases h; exact p182 _ _
  · cases h
theorem p153 (a b c d e f : Int) : Pure Tryz.prog Hd 153 [ag [i a, i b, i c], ag [i d, i e, i f]] (i (cmE f c)) :=
  pure_run (C := ⟨Tc2, no_, off_, noL⟩) (G := 4) 60 (.leaf (i (cmE f c))) tsc2 .none (by decide) hd_len rfl (by kernel_rfl) (by kernel_rfl) rfl
theorem p155 (a b c : Int) : Pure Tryz.prog Hd 155 [ag [i a, i b, i c]] (i b) :=
  pure_run (C := ⟨Tc2, no_, off_, noL⟩) (G := 4) 60 (.leaf (i b)) tsc2 .none (by decide) hd_len rfl (by kernel_rfl) (by kernel_rfl) rfl
def s153 : List Value → Option Value
  | [.agg ⟨[.int .i64 _, .int .i64 _, .int .i64 c]⟩, .agg ⟨[.int .i64 _, .int .i64 _, .int .i64 f]⟩] => some (i (cmE f c))
  | _ => none
def s155 : List Value → Option Value
  | [.agg ⟨[.int .i64 _, .int .i64 b, .int .i64 _]⟩] => some (i b)
  | _ => none
noncomputable def Tc3 : Tb := ext (ext Tc2 153 (pureE s153 [] Hd)) 155 (pureE s155 [] Hd)
theorem tsc3 {G : Nat} : TSound Tryz.prog G Tc3 := by
  refine (tsc2.pure hd_vars fun args v h => ?_).pure hd_vars fun args v h => ?_
  · unfold s153 at h
    split at h
    · cases h; exact p153 _ _ _ _ _ _
    · cases h
  · unfold s155 at h
    split at h
    · cases h; exact p155 _ _ _
    · cases h
/-! copies -/
def CiE (cs : List Value) (n c : Nat) : Prop := okI cs n c ∧ 1 ≤ n ∧ n < 1000000 ∧ cs.length = n
def spI (e : Nat) : NSpec := fun al css => match al, css with
  | [.slice (some ⟨4, 0, none⟩) n c], [cs] => some (CiE cs n c, .sl n n cs e 1 false)
  | _, _ => none
noncomputable def Kap : Cfg := ⟨noT, no_, on_ [(41, 5), (41, 200005), (149, 7), (149, 200007), (151, 7), (151, 200007)], noL⟩
section
variable (cs : List Value) (t s n c : Nat) (ex : Bool)
noncomputable def o41 : Out QRes := execO Tryz.prog 5 Kap 60 (.call 41 ⟨[sl 4 0 n c]⟩ (heapL (deads ++ [.cells cs t s ex])))
noncomputable def o149 : Out QRes := execO Tryz.prog 5 Kap 60 (.call 149 ⟨[sl 4 0 n (c + 1)]⟩ (heapL (deads ++ [.cells cs t s ex])))
noncomputable def o151 : Out QRes := execO Tryz.prog 5 Kap 60 (.call 151 ⟨[sl 4 0 n (c + 1)]⟩ (heapL (deads ++ [.cells cs t s ex])))
def apB (cs : List Value) (n c w : Nat) : Bool := !decide (n = 0) && (decide (n ≤ c) && (decide (n ≤ 1048576) && decide (0 + n * w ≤ cs.length)))
theorem v41 : (o41 cs t s n c ex).news = asN (apB cs n c 1) (.leaf 6 (.sl n n ((cs.drop 0).take (n * 1)) 3 1 false)) := by kernel_rfl
theorem x41 : o41 cs t s n c ex = (o41 cs t s n c ex).fix := by kernel_rfl
theorem v149 : (o149 cs t s n c ex).news = asN (apB cs n (c + 1) 1) (.leaf 6 (.sl n n ((cs.drop 0).take (n * 1)) 3 1 false)) := by kernel_rfl
theorem x149 : o149 cs t s n c ex = (o149 cs t s n c ex).fix := by kernel_rfl
theorem v151 : (o151 cs t s n c ex).news = asN (apB cs n (c + 1) 3) (.leaf 6 (.sl n n ((cs.drop 0).take (n * 3)) 216 3 false)) := by kernel_rfl
theorem x151 : o151 cs t s n c ex = (o151 cs t s n c ex).fix := by kernel_rfl
end
end Go.Proofs.YtafpmehhdcmllaaGreatDoor.Ways
noncomputable section
namespace Go.Proofs.YtafpmehhdcmllaaGreatDoor.Ways
open Go Go.Ex Go.RowKit
/-! ### the contracts of copies; what a portion's quotient is taken out -/
theorem apB_t {cs : List Value} {n c w : Nat} (h1 : 1 ≤ n) (h2 : n ≤ c) (h3 : n < 1000000) (h4 : cs.length = n * w) : apB cs n c w = true := by
  unfold apB
  rw [decide_eq_false (by omega), decide_eq_true h2, decide_eq_true (by omega), decide_eq_true (by omega)]; rfl
theorem tk_all {cs : List Value} {n w : Nat} (h : cs.length = n * w) : (cs.drop 0).take (n * w) = cs := by
  rw [List.drop_zero, ← h, List.take_length]
theorem c41 : ∀ al css os p v, spI 3 al css = some (p, v) → p → Blks css os → (∀ cs ∈ css, cs.all Ex.flat = true) ∧ v.Ok Tryz.prog 41 al deads os (gl + css.length) := by
  intro al css os p v hs hp hb
  unfold spI at hs
  split at hs
  case h_2 => cases hs
  rename_i n c cs
  cases hs
  obtain ⟨t, s, ex, rfl⟩ := blks1 hb
  obtain ⟨p1, p2, p3, p4⟩ := hp
  refine ⟨by simpa using p1.1, ?_⟩
  refine news_ok (C := Kap) (n := 60) .none .none (x41 cs t s n c ex) (b := 6) ((congrArg NT.sel (v41 cs t s n c ex)).trans ?_) (show 5 ≤ 6 by decide) p1.1
  rw [asN_t (apB_t p2 p1.2.1 p3 (by omega)), tk_all (by omega)]; rfl
theorem c149 : ∀ al css os p v, spI 3 al css = some (p, v) → p → Blks css os → (∀ cs ∈ css, cs.all Ex.flat = true) ∧ v.Ok Tryz.prog 149 al deads os (gl + css.length) := by
  intro al css os p v hs hp hb
  unfold spI at hs
  split at hs
  case h_2 => cases hs
  rename_i n c cs
  cases hs
  obtain ⟨t, s, ex, rfl⟩ := blks1 hb
  obtain ⟨p1, p2, p3, p4⟩ := hp
  have hc := p1.2.1
  obtain ⟨k, rfl⟩ : ∃ k, c = k + 1 := ⟨c - 1, by omega⟩
  refine ⟨by simpa using p1.1, ?_⟩
  refine news_ok (C := Kap) (n := 60) .none .none (x149 cs t s n k ex) (b := 6) ((congrArg NT.sel (v149 cs t s n k ex)).trans ?_) (show 5 ≤ 6 by decide) p1.1
  rw [asN_t (apB_t p2 hc p3 (by omega)), tk_all (by omega)]; rfl
def sp151 : NSpec := fun al css => match al, css with
  | [.slice (some ⟨4, 0, none⟩) n c], [cs] => some (CmE k3 3 cs n c, .sl n n cs 216 3 false)
  | _, _ => none
theorem c151 : ∀ al css os p v, sp151 al css = some (p, v) → p → Blks css os → (∀ cs ∈ css, cs.all Ex.flat = true) ∧ v.Ok Tryz.prog 151 al deads os (gl + css.length) := by
  intro al css os p v hs hp hb
  unfold sp151 at hs
  split at hs
  case h_2 => cases hs
  rename_i n c cs
  cases hs
  obtain ⟨t, s, ex, rfl⟩ := blks1 hb
  obtain ⟨p1, p2, p3, p4⟩ := hp
  have hc := p1.2.1
  obtain ⟨k, rfl⟩ : ∃ k, c = k + 1 := ⟨c - 1, by omega⟩
  refine ⟨by simpa using p1.1, ?_⟩
  refine news_ok (C := Kap) (n := 60) .none .none (x151 cs t s n k ex) (b := 6) ((congrArg NT.sel (v151 cs t s n k ex)).trans ?_) (show 5 ≤ 6 by decide) p1.1
  rw [asN_t (apB_t p2 hc p3 (by omega)), tk_all (by omega)]; rfl
/-! Changed: the quotients -/
def qI (cs : List Value) (j : Nat) : Int := ce 3 1 cs j
/-- the first numbers of a function, as cells -/
def nmL (f : Nat → Int) : Nat → List Value
  | 0 => []
  | j + 1 => nmL f j ++ [i (f j)]
theorem nmL_len (f : Nat → Int) : ∀ j, (nmL f j).length = j
  | 0 => rfl
  | j + 1 => by
    show (nmL f j ++ [i (f j)]).length = _
    rw [List.length_append, nmL_len f j]; rfl
theorem nmL_flat (f : Nat → Int) : ∀ j, (nmL f j).all Ex.flat = true
  | 0 => rfl
  | j + 1 => app_flat (nmL_flat f j) rfl
theorem nmL_ext {f g : Nat → Int} : ∀ {n : Nat}, (∀ j, j < n → f j = g j) → nmL f n = nmL g n
  | 0, _ => rfl
  | n + 1, h => by
    show nmL f n ++ _ = nmL g n ++ _
    rw [nmL_ext fun j hj => h j (by omega), h n (by omega)]
theorem nmL_get (f : Nat → Int) : ∀ (n j : Nat), j < n → (nmL f n)[j]? = some (i (f j))
  | 0, j, h => by omega
  | n + 1, j, h => by
    show (nmL f n ++ [i (f n)])[j]? = _
    by_cases hj : j < n
    · rw [List.getElem?_append_left (by rw [nmL_len]; omega)]
      exact nmL_get f n j hj
    · have : j = n := by omega
      subst this
      rw [List.getElem?_append_right (by rw [nmL_len]; omega), nmL_len, Nat.sub_self]; rfl
theorem nmL_eI (f : Nat → Int) {n j : Nat} (h : j < n) : eI (nmL f n) j = f j := by
  unfold eI
  rw [show 0 + j * 1 = j from by omega, nmL_get f n j h]; rfl
theorem nmL_ok (f : Nat → Int) {n : Nat} (h : n < 1000000) : okI (nmL f n) n n := by
  refine ⟨nmL_flat f n, Nat.le_refl n, by omega, fun j hj => ?_⟩
  rw [show 0 + j * 1 = j from by omega, nmL_get f n j hj]; rfl
def zI (n : Nat) : List Value := (zeroRow #[i 0] ((n : Int).toNat * 1)).toList
theorem zI_len (n : Nat) : (zI n).length = n := by
  unfold zI zeroRow
  simp
theorem zI_flat (n : Nat) : (zI n).all Ex.flat = true := by
  refine List.all_eq_true.2 fun v hv => ?_
  unfold zI zeroRow at hv
  simp only [Array.toList_map, List.mem_map, Array.mem_toList_iff, Array.mem_range] at hv
  obtain ⟨k, _, rfl⟩ := hv
  have hk : k % (#[i 0] : Array Value).size < 1 := Nat.mod_lt _ (by decide)
  generalize k % (#[i 0] : Array Value).size = m at hk
  match m, hk with
  | 0, _ => rfl
def in1 (out : List Value) (k : Nat) : Bool := decide (k < out.length) && true
noncomputable def B154 : Code := bodyL Tryz.f154 3
noncomputable def C154 : Cfg := ⟨Tc3, at_ [(154, 14)] .bool no_, on_ [(154, 10), (154, 16), (154, 17), (154, 23), (154, 100023)], noL⟩
section
variable (cs : List Value) (t s n c : Nat) (ex : Bool)
def hpQ (out : List Value) : List (CO × Bool) := [(.dead, false), (.dead, false), (.dead, false), (.dead, false), (.cells cs t s ex, true), (.cells out 3 1 true, true)]
def S154 : Shape (Int × List Value) := ⟨26, fun q => ⟨[(1, fn 155), (5, sl 5 0 n n), (11, sl 4 0 n c), (12, i n), (13, i q.1)], hpQ cs t s ex q.2⟩, fun _ q => (.exit 0, ⟨[(5, sl 5 0 n n)], hpQ cs t s ex q.2⟩)⟩
def st154 (q : Int × List Value) : SS (Int × List Value) := .br (ltF q.1 n) (askS (bnd_ q.1 n c) <| askS (cR k3 3 cs q.1) <| askS (bnd_ q.1 n n) <| askS (in1 q.2 (0 + q.1.toNat * 1)) <|
  .next 7 [0, 1, 2, 3, 4, 5] (wrapF .i64 (q.1 + 1), q.2.set (0 + q.1.toNat * 1) (i (qI cs q.1.toNat)))) (.done 6 [0, 1, 2, 3, 4, 5] 0)
end
section
variable {cs : List Value} {t s n c : Nat} {ex : Bool}
theorem hpQ_flat {out : List Value} (h : cs.all Ex.flat = true) (h2 : out.all Ex.flat = true) : ∀ o, (o, true) ∈ hpQ cs t s ex out → FlatO o := by
  intro o ho
  simp [hpQ] at ho
  rcases ho with rfl | rfl
  · exact fun x hx => List.all_eq_true.1 h x hx
  · exact fun x hx => List.all_eq_true.1 h2 x hx
theorem L154 (h : cs.all Ex.flat = true) : Loop1 Tryz.prog 5 154 B154 (S154 cs t s n c ex) 6 (st154 cs n c) (fun q => q.2.all Ex.flat = true) :=
  .mk' (C := fun _ => C154) (n := 60) (fun _ _ => tsc3) (fun _ _ => .none) (fun s ro _ => by kernel_rfl) (fun s ro _ => by kernel_rfl) (fun s => by kernel_rfl)
    (fun q q' hg h => by
      rcases br_or' h with h | h
      · have h := ask_or' (ask_or' (ask_or' (ask_or' h)))
        cases h
        exact set_flat hg rfl
      · cases h) (fun q hq => hpQ_flat h hq)
    (fun q j hq _ => ⟨hpQ_flat h hq, fun h => by cases h⟩)
theorem run154 (h : okR k3 3 cs n c) (hn : n < 1000000) : runS (st154 cs n c) (n + 1) (0, zI n) = some (0, ((n : Int), nmL (qI cs) n)) := by
  have hc := h.2.1
  have key := run_all (step := st154 cs n c) (st := fun j => (((j : Nat) : Int), nmL (qI cs) j ++ (zI n).drop j)) (a := 0) n (fun j hj => ?_) ?_
  · have e1 : nmL (qI cs) n ++ (zI n).drop n = nmL (qI cs) n := by rw [List.drop_of_length_le (by rw [zI_len]; exact Nat.le_refl _), List.append_nil]
    rw [e1] at key
    exact key
  · have hfl : (nmL (qI cs) j).length = j := nmL_len _ _
    have hdl : ((zI n).drop j).length = n - j := by rw [List.length_drop, zI_len]
    obtain ⟨x, B, hB⟩ : ∃ x B, (zI n).drop j = x :: B := by
      match hd : (zI n).drop j, hdl with
      | [], hdl => simp at hdl; omega
      | x :: B, _ => exact ⟨x, B, rfl⟩
    have hB2 : (zI n).drop (j + 1) = B := by
      rw [← List.drop_drop, hB]; rfl
    have hset : (nmL (qI cs) j ++ (zI n).drop j).set (0 + j * 1) (i (qI cs j)) = nmL (qI cs) (j + 1) ++ (zI n).drop (j + 1) := by
      rw [hB, show 0 + j * 1 = j from by omega, set_app (by omega), hfl, Nat.sub_self, hB2]
      show _ = nmL (qI cs) j ++ [i (qI cs j)] ++ B
      rw [List.append_assoc]; rfl
    have hin : in1 (nmL (qI cs) j ++ (zI n).drop j) (0 + j * 1) = true := by
      unfold in1
      rw [decide_eq_true (by rw [List.length_append, hfl, hdl]; omega)]; rfl
    unfold st154
    dsimp only
    rw [br_t (by rw [ltF_eq]; simpa using hj), askS_sel (bnd_t hj hc), askS_sel (cR_t h hj), askS_sel (bnd_t hj (Nat.le_refl n)), show ((j : Nat) : Int).toNat = j from rfl, askS_sel hin, wsucc (by omega), hset]; rfl
  · unfold st154
    dsimp only
    rw [br_f (by rw [ltF_eq]; simp)]; rfl
end
section
variable (cs : List Value) (t s n c : Nat) (ex : Bool)
noncomputable def K154 (r : Nat × Int × List Value) : Cfg := ⟨Tc3, no_, on_ [(154, 10)], loopE noL 154 3 26 6 B154 ((S154 cs t s n c ex).st (0, zI n)).live ((S154 cs t s n c ex).st (0, zI n)).hp (finO (S154 cs t s n c ex) r [0])⟩
noncomputable def o154 (r : Nat × Int × List Value) : Out QRes := execO Tryz.prog 5 (K154 cs t s n c ex r) 60 (.call 154 ⟨[sl 4 0 n c, fn 155]⟩ (heapL (deads ++ [.cells cs t s ex])))
theorem v154 (j : Int) (out : List Value) : (o154 cs t s n c ex (0, j, out)).news = .br (leF 0 n && (leF n n && leF n 1048576)) (.br true (.leaf 5 (.sl n n out 3 1 true)) .fail) .fail := by kernel_rfl
theorem x154 (j : Int) (out : List Value) : o154 cs t s n c ex (0, j, out) = (o154 cs t s n c ex (0, j, out)).fix := by kernel_rfl
end
def QuE (cs : List Value) (n c : Nat) : Prop := okR k3 3 cs n c ∧ n < 1000000
def sp154 : NSpec := fun al css => match al, css with
  | [.slice (some ⟨4, 0, none⟩) n c, .func (.func 155) ⟨[]⟩ ⟨[]⟩], [cs] => some (QuE cs n c, .sl n n (nmL (qI cs) n) 3 1 true)
  | _, _ => none
theorem c154 : ∀ al css os p v, sp154 al css = some (p, v) → p → Blks css os → (∀ cs ∈ css, cs.all Ex.flat = true) ∧ v.Ok Tryz.prog 154 al deads os (gl + css.length) := by
  intro al css os p v hs hp hb
  unfold sp154 at hs
  split at hs
  case h_2 => cases hs
  rename_i n c cs
  cases hs
  obtain ⟨t, s, ex, rfl⟩ := blks1 hb
  obtain ⟨p1, p2⟩ := hp
  refine ⟨by simpa using p1.1, ?_⟩
  have hL := (L154 (cs := cs) (t := t) (s := s) (n := n) (c := c) (ex := ex) p1.1).table (id := 3) (s0 := (0, zI n)) .none (by decide) (zI_flat n) (run154 p1 p2) (by kernel_rfl) [0]
  refine news_ok (C := K154 cs t s n c ex (0, ((n : Int), nmL (qI cs) n))) (n := 60) tsc3 hL (x154 cs t s n c ex _ _) (b := 5) ((congrArg NT.sel (v154 cs t s n c ex _ _)).trans ?_) (show 5 ≤ 5 by decide) (nmL_flat _ _)
  have h1 : (leF 0 n && (leF n n && leF n 1048576)) = true := by
    rw [leF_eq, leF_eq, leF_eq, decide_eq_true (by omega), decide_eq_true (by omega), decide_eq_true (by omega)]; rfl
  rw [nb_t h1]; rfl
end Go.Proofs.YtafpmehhdcmllaaGreatDoor.Ways
