import Derived.Test.YtafpmehhdcmllaaGreatDoorMc6
set_option maxRecDepth 10000
noncomputable section
namespace Go.Proofs.YtafpmehhdcmllaaGreatDoor.Ways
open Go Go.Ex Go.RowKit Go.Ex.Srt
/-! ### the reference's Curtail: its loops -/
noncomputable def BrA : Code := bodyL Tryz.f43 6
noncomputable def BrO : Code := bodyL Tryz.f43 11
noncomputable def BrI : Code := bodyL Tryz.f43 15
noncomputable def Te : Tb := ext Td 110 (autoE spS [] (heapL deads))
theorem tse {G : Nat} : TSound Tryz.prog G Te := tsd.auto c110
noncomputable def spR : Nat → Nat → Split := at_ [(43, 19), (43, 24), (43, 46), (43, 52), (43, 60), (43, 63), (43, 82)] .bool no_
def syR : Nat → Nat → Bool := on_ [(43, 14), (43, 200014), (43, 31), (43, 32), (43, 36), (43, 37), (43, 100037), (43, 40), (43, 57), (43, 58), (43, 66), (43, 67), (43, 71), (43, 74), (43, 75), (43, 79), (43, 86), (43, 100086), (43, 89), (43, 90), (43, 92), (43, 100092)]
noncomputable def CR : Cfg := ⟨Te, spR, syR, noL⟩
abbrev QR := Int × List Value × List Value
section
variable (cs : List Value) (n c : Nat) (lim all : Int) (t s : Nat) (x : Bool)
def hpA_ (out : List Value) : List (CO × Bool) := [(.dead, false), (.dead, false), (.dead, false), (.dead, false), (.cells cs t s x, true), (.cells [] 3 1 true, true), (.cells out 3 1 false, true)]
def hpO (out ex : List Value) : List (CO × Bool) := [(.dead, false), (.dead, false), (.dead, false), (.dead, false), (.cells cs t s x, true), (.cells [] 3 1 true, true), (.cells out 3 1 false, true), (.cells ex 4 1 true, true)]
def SrA : Shape QS := ⟨94, fun q => ⟨[(0, sl 4 0 n c), (1, i lim), (5, sl 6 0 n n), (6, i all), (7, i q.1)], hpA_ cs t s x q.2⟩, fun _ q => (.exit 0, ⟨[(0, sl 4 0 n c), (1, i lim), (5, sl 6 0 n n), (6, i all)], hpA_ cs t s x q.2⟩)⟩
def stA (q : QS) : SS QS := .br (ltF q.1 n) (askS (bnd_ q.1 n c) <| askS (cB cs (.i .i64) q.1) <| askS (!eqF all 0) <| askS (bnd_ q.1 n n) <| askS (in1 q.2 (0 + q.1.toNat * 1)) <|
  .next 7 [0, 1, 2, 3, 4, 5, 6] (wrapF .i64 (q.1 + 1), q.2.set (0 + q.1.toNat * 1) (i (qtE lim all (eI cs q.1.toNat))))) (.done 7 [0, 1, 2, 3, 4, 5, 6] 0)
def SrI (left : Int) (out ex : List Value) : Shape (Int × Int) := ⟨94, fun q => ⟨[(0, sl 4 0 n c), (1, i lim), (5, sl 6 0 n n), (6, i all), (8, sl 7 0 n n), (9, i left), (10, i q.2), (11, i q.1)], hpO cs t s x out ex⟩,
  fun _ q => (.exit 4, ⟨[(0, sl 4 0 n c), (1, i lim), (5, sl 6 0 n n), (6, i all), (8, sl 7 0 n n), (9, i left), (10, i q.2)], hpO cs t s x out ex⟩)⟩
def nxI (q : Int × Int) (b : Bool) : SS (Int × Int) := .br b (.next 8 [0, 1, 2, 3, 4, 5, 6, 7] (wrapF .i64 (q.1 + 1), q.1)) (.next 8 [0, 1, 2, 3, 4, 5, 6, 7] (wrapF .i64 (q.1 + 1), q.2))
def boA (ex : List Value) (j : Int) : Bool := boolO ex[0 + j.toNat * 1]?
def rmA (j : Int) : Int := rmE lim all (eI cs j.toNat)
def stI_ (ex : List Value) (q : Int × Int) : SS (Int × Int) := .br (ltF q.1 n) (askS (bnd_ q.1 n n) <| askS (cB ex .b q.1) <| .br (!boA ex q.1)
  (.br (ltF q.2 0) (nxI q true) (askS (bnd_ q.1 n c) <| askS (cB cs (.i .i64) q.1) <| askS (!eqF all 0) <| askS (bnd_ q.2 n c) <| askS (cB cs (.i .i64) q.2) <| askS (!eqF all 0) <| nxI q (ltF (rmA cs lim all q.2) (rmA cs lim all q.1))))
  (nxI q false)) (.done 8 [0, 1, 2, 3, 4, 5, 6, 7] 0)
end
section
variable {cs : List Value} {n c : Nat} {lim all : Int} {t s : Nat} {x : Bool}
theorem hpA_fl {out : List Value} (h : cs.all Ex.flat = true) (h2 : out.all Ex.flat = true) : ∀ o, (o, true) ∈ hpA_ cs t s x out → FlatO o := by
  intro o ho
  simp [hpA_] at ho
  rcases ho with rfl | rfl | rfl
  · exact fun y hy => List.all_eq_true.1 h y hy
  · exact fun y hy => by cases hy
  · exact fun y hy => List.all_eq_true.1 h2 y hy
theorem hpO_fl {out ex : List Value} (h : cs.all Ex.flat = true) (h2 : out.all Ex.flat = true) (h3 : ex.all Ex.flat = true) : ∀ o, (o, true) ∈ hpO cs t s x out ex → FlatO o := by
  intro o ho
  simp [hpO] at ho
  rcases ho with rfl | rfl | rfl | rfl
  · exact fun y hy => List.all_eq_true.1 h y hy
  · exact fun y hy => by cases hy
  · exact fun y hy => List.all_eq_true.1 h2 y hy
  · exact fun y hy => List.all_eq_true.1 h3 y hy
theorem LrA (h : cs.all Ex.flat = true) : Loop1 Tryz.prog 5 43 BrA (SrA cs n c lim all t s x) 7 (stA cs n c lim all) (fun q => q.2.all Ex.flat = true) :=
  .mk' (C := fun _ => CR) (n := 60) (fun _ _ => tse) (fun _ _ => .none) (fun s ro _ => by kernel_rfl) (fun s ro _ => by kernel_rfl) (fun s => by kernel_rfl)
    (fun q q' hg h => by
      rcases br_or' h with h | h
      · have h := ask_or' (ask_or' (ask_or' (ask_or' (ask_or' h))))
        cases h
        exact set_flat hg rfl
      · cases h) (fun q hq => hpA_fl h hq)
    (fun q j hq _ => ⟨hpA_fl h hq, fun h => by cases h⟩)
theorem LrI {left : Int} {out ex : List Value} (h : cs.all Ex.flat = true) (h2 : out.all Ex.flat = true) (h3 : ex.all Ex.flat = true) : Loop1 Tryz.prog 5 43 BrI (SrI cs n c lim all t s x left out ex) 8 (stI_ cs n c lim all ex) (fun _ => True) :=
  .mk' (C := fun _ => CR) (n := 60) (fun _ _ => tse) (fun _ _ => .none) (fun s ro _ => by kernel_rfl) (fun s ro _ => by kernel_rfl) (fun s => by kernel_rfl) (fun _ _ _ _ => trivial) (fun _ _ => hpO_fl h h2 h3)
    (fun _ _ _ _ => ⟨hpO_fl h h2 h3, fun h => by cases h⟩)
end
end Go.Proofs.YtafpmehhdcmllaaGreatDoor.Ways
set_option maxRecDepth 10000
noncomputable section
namespace Go.Proofs.YtafpmehhdcmllaaGreatDoor.Ways
open Go Go.Ex Go.RowKit Go.Ex.Srt
/-! ### the reference's Curtail: the outer loop, the whole run -/
section
variable (cs : List Value) (n c : Nat) (lim all : Int) (t s : Nat) (x : Bool)
noncomputable def inI (ex : List Value) : Prop := endP (stI_ cs n c lim all ex) (0, -1)
noncomputable def beI (ex : List Value) : Int × Int := endE (stI_ cs n c lim all ex) (0, -1)
noncomputable def KrO (q : QR) : Cfg := ⟨Te, spR, syR, loopE noL 43 15 94 8 BrI ((SrI cs n c lim all t s x q.1 q.2.1 q.2.2).st (0, -1)).live ((SrI cs n c lim all t s x q.1 q.2.1 q.2.2).st (0, -1)).hp (.br (tru (inI cs n c lim all q.2.2)) (finO (SrI cs n c lim all t s x q.1 q.2.1 q.2.2) (0, beI cs n c lim all q.2.2) [0]) .fail)⟩
def SrO : Shape QR := ⟨94, fun q => ⟨[(0, sl 4 0 n c), (1, i lim), (5, sl 6 0 n n), (6, i all), (8, sl 7 0 n n), (9, i q.1)], hpO cs t s x q.2.1 q.2.2⟩,
  fun _ q => (.exit 2, ⟨[(0, sl 4 0 n c), (1, i lim), (5, sl 6 0 n n), (6, i all)], hpO cs t s x q.2.1 q.2.2⟩)⟩
noncomputable def stO_ (q : QR) : SS QR := .br (ltF 0 q.1) (askS (tru (inI cs n c lim all q.2.2)) <| askS true <| askS (bnd_ (beI cs n c lim all q.2.2).2 n n) <| askS (in1 q.2.2 (0 + (beI cs n c lim all q.2.2).2.toNat * 1)) <|
  askS (bnd_ (beI cs n c lim all q.2.2).2 n n) <| askS (cB q.2.1 (.i .i64) (beI cs n c lim all q.2.2).2) <| askS (bnd_ (beI cs n c lim all q.2.2).2 n n) <| askS (in1 q.2.1 (0 + (beI cs n c lim all q.2.2).2.toNat * 1)) <|
  .next 8 [0, 1, 2, 3, 4, 5, 6, 7] (wrapF .i64 (q.1 - 1), q.2.1.set (0 + (beI cs n c lim all q.2.2).2.toNat * 1) (i (wrapF .i64 (eI q.2.1 (beI cs n c lim all q.2.2).2.toNat + 1))), q.2.2.set (0 + (beI cs n c lim all q.2.2).2.toNat * 1) (b_ true))) (.done 8 [0, 1, 2, 3, 4, 5, 6, 7] 0)
end
def GdR (q : QR) : Prop := q.2.1.all Ex.flat = true ∧ q.2.2.all Ex.flat = true
theorem LrO {cs : List Value} {n c : Nat} {lim all : Int} {t s : Nat} {x : Bool} (h : cs.all Ex.flat = true) : Loop1 Tryz.prog 5 43 BrO (SrO cs n c lim all t s x) 8 (stO_ cs n c lim all) GdR :=
  .mk' (C := KrO cs n c lim all t s x) (n := 60) (fun _ _ => tse) (fun q hq => (LrI (left := q.1) (n := n) (c := c) (lim := lim) (all := all) (t := t) (s := s) (x := x) h hq.1 hq.2).tableIf (id := 15) (s0 := (0, -1)) .none (by decide) trivial (fun hp => endE_run (tru_iff.1 hp)) (by kernel_rfl) [0]) (fun q ro _ => by kernel_rfl) (fun q ro _ => by kernel_rfl) (fun q => by kernel_rfl)
    (fun q q' hg h => by
      rcases br_or' h with h | h
      · have h := ask_or' (ask_or' (ask_or' (ask_or' (ask_or' (ask_or' (ask_or' (ask_or' h)))))))
        cases h
        exact ⟨set_flat hg.1 rfl, set_flat hg.2 rfl⟩
      · cases h) (fun q hq => hpO_fl h hq.1 hq.2)
    (fun q j hq _ => ⟨hpO_fl h hq.1 hq.2, fun h => by cases h⟩)
/-- no truth value is set -/
def zB (n : Nat) : List Value := (zeroRow #[b_ false] ((n : Int).toNat * 1)).toList
section
variable (cs : List Value) (n c : Nat) (lim : Int) (t s : Nat) (x : Bool) (out out2 ex : List Value) (j1 j2 : Int)
def tk1 (cs : List Value) (n : Nat) : List Value := (cs.drop 0).take (n * 1)
noncomputable def LK43 : LTab :=
  loopE (loopE noL 43 6 94 7 BrA ((SrA cs n c lim (sumW (eI cs) n) t s x).st (0, tk1 cs n)).live ((SrA cs n c lim (sumW (eI cs) n) t s x).st (0, tk1 cs n)).hp (finO (SrA cs n c lim (sumW (eI cs) n) t s x) (0, (j1, out)) [0]))
    43 11 94 8 BrO ((SrO cs n c lim (sumW (eI cs) n) t s x).st (wrapF .i64 (lim - sumW (eI out) n), out, zB n)).live ((SrO cs n c lim (sumW (eI cs) n) t s x).st (wrapF .i64 (lim - sumW (eI out) n), out, zB n)).hp (finO (SrO cs n c lim (sumW (eI cs) n) t s x) (0, (j2, out2, ex)) [0])
noncomputable def K43 : Cfg := ⟨Te, spR, syR, LK43 cs n c lim t s x out out2 ex j1 j2⟩
noncomputable def o43 : Out QRes := execO Tryz.prog 5 (K43 cs n c lim t s x out out2 ex j1 j2) 80 (.call 43 ⟨[sl 4 0 n c, i lim]⟩ (heapL (deads ++ [.cells cs t s x])))
noncomputable def K43z : Cfg := ⟨Te, at_ [(43, 19)] .bool (at_ [(43, 7)] (.ints []) no_), syR, noL⟩
noncomputable def p43 : Out QRes := execO Tryz.prog 5 K43z 80 (.call 43 ⟨[sl 4 0 n c, i lim]⟩ (heapL (deads ++ [.cells cs t s x])))
noncomputable def v43T : NT :=
  asN (apB cs n c 1) <| asN (tru (okI cs n c)) <| .br (leF (sumW (eI cs) n) lim) (.leaf 6 (.sl n n (tk1 cs n) 3 1 false)) <|
  asN true <| asN (leF 0 n && (leF n n && leF n 1048576)) <| asN (tru (okI out n n)) <| asN true <| .leaf 6 (.sl n n out2 3 1 false)
theorem v43 : (o43 cs n c lim t s x out out2 ex j1 j2).news = v43T cs n c lim out out2 := by kernel_rfl
theorem x43 : o43 cs n c lim t s x out out2 ex j1 j2 = (o43 cs n c lim t s x out out2 ex j1 j2).fix := by kernel_rfl
theorem w43 : (p43 cs n c lim t s x).news = asN (apB cs n c 1) (asN (tru (okI cs n c)) (.br (leF (sumW (eI cs) n) lim) (.leaf 6 (.sl n n (tk1 cs n) 3 1 false)) .fail)) := by kernel_rfl
theorem z43 : p43 cs n c lim t s x = (p43 cs n c lim t s x).fix := by kernel_rfl
end
end Go.Proofs.YtafpmehhdcmllaaGreatDoor.Ways
