import Derived.Test.YtafpmehhdcmllaaGreatDoorMc6
set_option maxRecDepth 10000
noncomputable section
namespace Go.Proofs.YtafpmehhdcmllaaGreatDoor.Ways
open Go Go.Ex Go.RowKit Go.Ex.Srt
/-! ### the reference's Curtail: its loops -/
noncomputable def BrA : Code := bodyL Tryz.f43 6
noncomputable def BrO : Code := bodyL Tryz.f43 11
noncomputable def BrI : Code := bodyL Tryz.f43 15
noncomputable def Te : Tb := ext Td 110 (autoE spS [] (heapL deads))
theorem tse {G : Nat} : TSound Tryz.prog G Te := tsd.auto c110
noncomputable def spR : Nat → Nat → Split := at_ [(43, 19), (43, 24), (43, 46), (43, 52), (43, 60), (43, 63), (43, 82)] .bool no_
def syR : Nat → Nat → Bool := on_ [(43, 14), (43, 200014), (43, 31), (43, 32), (43, 36), (43, 37), (43, 100037), (43, 40), (43, 57), (43, 58), (43, 66), (43, 67), (43, 71), (43, 74), (43, 75), (43, 79), (43, 86), (43, 100086), (43, 89), (43, 90), (43, 92), (43, 100092)]
noncomputable def CR : Cfg := ⟨Te, spR, syR, noL⟩
abbrev QR := Int × List Value × List Value
section
variable (cs : List Value) (n c : Nat) (lim all : Int) (t s : Nat) (x : Bool)
def hpA_ (out : List Value) : List (CO × Bool) := [(.dead, false), (.dead, false), (.dead, false), (.dead, false), (.cells cs t s x, true), (.cells [] 3 1 true, true), (.cells out 3 1 false, true)]
def hpO (out ex : List Value) : List (CO × Bool) := [(.dead, false), (.dead, false), (.dead, false), (.dead, false), (.cells cs t s x, true), (.cells [] 3 1 true, true), (.cells out 3 1 false, true), (.cells ex 4 1 true, true)]
def SrA : Shape QS := ⟨94, fun q => ⟨[(0, sl 4 0 n c), (1, i lim), (5, sl 6 0 n n), (6, i all), (7, i q.1)], hpA_ cs t s x q.2⟩, fun _ q => (.exit 0, ⟨[(0, sl 4 0 n c), (1, i lim), (5, sl 6 0 n n), (6, i all)], hpA_ cs t s x q.2⟩)⟩
def stA (q : QS) : SS QS := .br (ltF q.1 n) (askS (bnd_ q.1 n c) <| askS (cB cs (.i .i64) q.1) <| askS (!eqF all 0) <| askS (bnd_ q.1 n n) <| askS (in1 q.2 (0 + q.1.toNat * 1)) <|
  .next 7 [0, 1, 2, 3, 4, 5, 6] (wrapF .i64 (q.1 + 1), q.2.set (0 + q.1.toNat * 1) (i (qtE lim all (eI cs q.1.toNat))))) (.done 7 [0, 1, 2, 3, 4, 5, 6] 0)
def SrI (left : Int) (out ex : List Value) : Shape (Int × Int) := ⟨94, fun q => ⟨[(0, sl 4 0 n c), (1, i lim), (5, sl 6 0 n n), (6, i all), (8, sl 7 0 n n), (9, i left), (10, i q.2), (11, i q.1)], hpO cs t s x out ex⟩,
  fun _ q => (.exit 4, ⟨[(0, sl 4 0 n c), (1, i lim), (5, sl 6 0 n n), (6, i all), (8, sl 7 0 n n), (9, i left), (10, i q.2)], hpO cs t s x out ex⟩)⟩
def nxI (q : Int × Int) (b : Bool) : SS (Int × Int) := .br b (.next 8 [0, 1, 2, 3, 4, 5, 6, 7] (wrapF .i64 (q.1 + 1), q.1)) (.next 8 [0, 1, 2, 3, 4, 5, 6, 7] (wrapF .i64 (q.1 + 1), q.2))
def boA (ex : List Value) (j : Int) : Bool := boolO ex[0 + j.toNat * 1]?
def rmA (j : Int) : Int := rmE lim all (eI cs j.toNat)
def stI_ (ex : List Value) (q : Int × Int) : SS (Int × Int) := .br (ltF q.1 n) (askS (bnd_ q.1 n n) <| askS (cB ex .b q.1) <| .br (!boA ex q.1)
  (.br (ltF q.2 0) (nxI q true) (askS (bnd_ q.1 n c) <| askS (cB cs (.i .i64) q.1) <| askS (!eqF all 0) <| askS (bnd_ q.2 n c) <| askS (cB cs (.i .i64) q.2) <| askS (!eqF all 0) <| nxI q (ltF (rmA cs lim all q.2) (rmA cs lim all q.1))))
  (nxI q false)) (.done 8 [0, 1, 2, 3, 4, 5, 6, 7] 0)
end
section
variable {cs : List Value} {n c : Nat} {lim all : Int} {t s : Nat} {x : Bool}
theorem hpA_fl {out : List Value} (h : cs.all Ex.flat = true) (h2 : out.all Ex.flat = true) : ∀ o, (o, true) ∈ hpA_ cs t s x out → FlatO o := by
  intro o ho
  simp [hpA_] at ho
  rcases ho with rfl | rfl | rfl
  · exact fun y hy => List.all_eq_true.1 h y hy
  · exact fun y hy => by cases hy
  · exact fun y hy => List.all_eq_true.1 h2 y hy
theorem hpO_fl {out ex : List Value} (h : cs.all Ex.flat = true) (h2 : out.all Ex.flat = true) (h3 : ex.all Ex.flat = true) : ∀ o, (o, true) ∈ hpO cs t s x out ex → FlatO o := by
  intro o ho
  simp [hpO] at ho
  rcases ho with rfl | rfl | rfl | rfl
  · exact fun y hy => List.all_eq_true.1 h y hy
  · exact fun y hy => by cases hy
  · exact fun y hy => List.all_eq_true.1 h2 y hy
  · exact fun y hy => List.all_eq_true.1 h3 y hy
theorem LrA (h : cs.all Ex.flat = true) : Loop1 Tryz.prog 5 43 BrA (SrA cs n c lim all t s x) 7 (stA cs n c lim all) (fun q => q.2.all Ex.flat = true) :=
  .mk' (C := fun _ => CR) (n := 60) (fun _ _ => tse) (fun _ _ => .none) (fun s ro _ => by kernel_rfl) (fun s ro _ => by kernel_rfl) (fun s => by kernel_rfl)
    (fun q q' hg h => by
      rcases br_or' h with h | h
      · have h := ask_or' (ask_or' (ask_or' (ask_or' (ask_or' h))))
        cases h
        exact set_flat hg rfl
      · cases h) (fun q hq => hpA_fl h hq)
    (fun q j hq _ => ⟨hpA_fl h hq, fun h => by cases h⟩)
theorem LrI {left : Int} {out ex : List Value} (h : cs.all Ex.flat = true) (h2 : out.all Ex.flat = true) (h3 : ex.all Ex.flat = true) : Loop1 Tryz.prog 5 43 BrI (SrI cs n c lim all t s x left out ex) 8 (stI_ cs n c lim all ex) (fun _ => True) :=
  .mk' (C := fun _ => CR) (n := 60) (fun _ _ => tse) (fun _ _ => .none) (fun s ro _ => by kernel_rfl) (fun s ro _ => by kernel_rfl) (fun s => by kernel_rfl) (fun _ _ _ _ => trivial) (fun _ _ => hpO_fl h h2 h3)
    (fun _ _ _ _ => ⟨hpO_fl h h2 h3, fun h => by cases h⟩)
end
end Go.Proofs.YtafpmehhdcmllaaGreatDoor.Ways
set_option maxRecDepth 10000
noncomputable section
namespace Go.Proofs.YtafpmehhdcmllaaGreatDoor.Ways
open Go Go.Ex Go.RowKit Go.Ex.Srt
/-! ### the reference's Curtail: the outer loop, the whole run -/
section
variable (cs : List Value) (n c : Nat) (lim all : Int) (t s : Nat) (x : Bool)
noncomputable def inI (ex : List Value) : Prop := endP (stI_ cs n c lim all ex) (0, -1)
noncomputable def beI (ex : List Value) : Int × Int := endE (stI_ cs n c lim all ex) (0, -1)
noncomputable def KrO (q : QR) : Cfg := ⟨Te, spR, syR, loopE noL 43 15 94 8 BrI ((SrI cs n c lim all t s x q.1 q.2.1 q.2.2).st (0, -1)).live ((SrI cs n c lim all t s x q.1 q.2.1 q.2.2).st (0, -1)).hp (.br (tru (inI cs n c lim all q.2.2)) (finO (SrI cs n c lim all t s x q.1 q.2.1 q.2.2) (0, beI cs n c lim all q.2.2) [0]) .fail)⟩
def SrO : Shape QR := ⟨94, fun q => ⟨[(0, sl 4 0 n c), (1, i lim), (5, sl 6 0 n n), (6, i all), (8, sl 7 0 n n), (9, i q.1)], hpO cs t s x q.2.1 q.2.2⟩,
  fun _ q => (.exit 2, ⟨[(0, sl 4 0 n c), (1, i lim), (5, sl 6 0 n n), (6, i all)], hpO cs t s x q.2.1 q.2.2⟩)⟩
noncomputable def stO_ (q : QR) : SS QR := .br (ltF 0 q.1) (askS (tru (inI cs n c lim all q.2.2)) <| askS true <| askS (bnd_ (beI cs n c lim all q.2.2).2 n n) <| askS (in1 q.2.2 (0 + (beI cs n c lim all q.2.2).2.toNat * 1)) <|
  askS (bnd_ (beI cs n c lim all q.2.2).2 n n) <| askS (cB q.2.1 (.i .i64) (beI cs n c lim all q.2.2).2) <| askS (bnd_ (beI cs n c lim all q.2.2).2 n n) <| askS (in1 q.2.1 (0 + (beI cs n c lim all q.2.2).2.toNat * 1)) <|
  .next 8 [0, 1, 2, 3, 4, 5, 6, 7] (wrapF .i64 (q.1 - 1), q.2.1.set (0 + (beI cs n c lim all q.2.2).2.toNat * 1) (i (wrapF .i64 (eI q.2.1 (beI cs n c lim all q.2.2).2.toNat + 1))), q.2.2.set (0 + (beI cs n c lim all q.2.2).2.toNat * 1) (b_ true))) (.done 8 [0, 1, 2, 3, 4, 5, 6, 7] 0)
end
def GdR (q : QR) : Prop := q.2.1.all Ex.flat = true ∧ q.2.2.all Ex.flat = true
theorem LrO {cs : List Value} {n c : Nat} {lim all : Int} {t s : Nat} {x : Bool} (h : cs.all Ex.flat = true) : Loop1 Tryz.prog 5 43 BrO (SrO cs n c lim all t s x) 8 (stO_ cs n c lim all) GdR :=
  .mk' (C := KrO cs n c lim all t s x) (n := 60) (fun _ _ => tse) (fun q hq => (LrI (left := q.1) (n := n) (c := c) (lim := lim) (all := all) (t := t) (s := s) (x := x) h hq.1 hq.2).tableIf (id := 15) (s0 := (0, -1)) .none (by decide) trivial (fun hp => endE_run (tru_iff.1 hp)) (by kernel_rfl) [0]) (fun q ro _ => by kernel_rfl) (fun q ro _ => by kernel_rfl) (fun q => by kernel_rfl)
    (fun q q' hg h => by
      rcases br_or' h with h | h
      · have h := ask_or' (ask_or' (ask_or' (ask_or' (ask_or' (ask_or' (ask_or' (ask_or' h)))))))
        cases h
        exact ⟨set_flat hg.1 rfl, set_flat hg.2 rfl⟩
      · cases h) (fun q hq => hpO_fl h hq.1 hq.2)
    (fun q j hq _ => ⟨hpO_fl h hq.1 hq.2, fun h => by cases h⟩)
/-- no truth value is set -/
def zB (n : Nat) : List Value := (zeroRow #[b_ false] ((n : Int).toNat * 1)).toList
section
variable (cs : List Value) (n c : Nat) (lim : Int) (t s : Nat) (x : Bool) (out out2 ex : List Value) (j1 j2 : Int)
def tk1 (cs : List Value) (n : Nat) : List Value := (cs.drop 0).take (n * 1)
noncomputable def LK43 : LTab :=
  loopE (loopE noL 43 6 94 7 BrA ((SrA cs n c lim (sumW (eI cs) n) t s x).st (0, tk1 cs n)).live ((SrA cs n c lim (sumW (eI cs) n) t s x).st (0, tk1 cs n)).hp (finO (SrA cs n c lim (sumW (eI cs) n) t s x) (0, (j1, out)) [0]))
    43 11 94 8 BrO ((SrO cs n c lim (sumW (eI cs) n) t s x).st (wrapF .i64 (lim - sumW (eI out) n), out, zB n)).live ((SrO cs n c lim (sumW (eI cs) n) t s x).st (wrapF .i64 (lim - sumW (eI out) n), out, zB n)).hp (finO (SrO cs n c lim (sumW (eI cs) n) t s x) (0, (j2, out2, ex)) [0])
noncomputable def K43 : Cfg := ⟨Te, spR, syR, LK43 cs n c lim t s x out out2 ex j1 j2⟩
noncomputable def o43 : Out QRes := execO Tryz.prog 5 (K43 cs n c lim t s x out out2 ex j1 j2) 80 (.call 43 ⟨[sl 4 0 n c, i lim]⟩ (heapL (deads ++ [.cells cs t s x])))
noncomputable def K43z : Cfg := ⟨Te, at_ [(43, 19)] .bool (at_ [(43, 7)] (.ints []) no_), syR, noL⟩
noncomputable def p43 : Out QRes := execO Tryz.prog 5 K43z 80 (.call 43 ⟨[sl 4 0 n c, i lim]⟩ (heapL (deads ++ [.cells cs t s x])))
noncomputable def v43T : NT :=
  asN (apB cs n c 1) <| asN (tru (okI cs n c)) <| .br (leF (sumW (eI cs) n) lim) (.leaf 6 (.sl n n (tk1 cs n) 3 1 false)) <|
  asN true <| asN (leF 0 n && (leF n n && leF n 1048576)) <| asN (tru (okI out n n)) <| asN true <| .leaf 6 (.sl n n out2 3 1 false)
theorem v43 : (o43 cs n c lim t s x out out2 ex j1 j2).news = v43T cs n c lim out out2 := by kernel_rfl
theorem x43 : o43 cs n c lim t s x out out2 ex j1 j2 = (o43 cs n c lim t s x out out2 ex j1 j2).fix := by kernel_rfl
theorem w43 : (p43 cs n c lim t s x).news = asN (apB cs n c 1) (asN (tru (okI cs n c)) (.br (leF (sumW (eI cs) n) lim) (.leaf 6 (.sl n n (tk1 cs n) 3 1 false)) .fail)) := by kernel_rfl
theorem z43 : p43 cs n c lim t s x = (p43 cs n c lim t s x).fix := by kernel_rfl
end
end Go.Proofs.YtafpmehhdcmllaaGreatDoor.Ways
set_option maxRecDepth 10000
noncomputable section
namespace Go.Proofs.YtafpmehhdcmllaaGreatDoor.Ways
open Go Go.Ex Go.RowKit Go.Ex.Srt
/-! ### the reference's Curtail: what its loops come to -/
theorem nmL_get' (F : Nat → Int) (n j : Nat) : (nmL F n)[j]? = if j < n then some (i (F j)) else none := by
  by_cases h : j < n
  · rw [if_pos h, nmL_get F n j h]
  · rw [if_neg h, List.getElem?_eq_none (by rw [nmL_len]; omega)]
theorem nmL_set {F G : Nat → Int} {n k : Nat} {v : Int} (hk : G k = v) (ho : ∀ j, j ≠ k → G j = F j) : (nmL F n).set (0 + k * 1) (i v) = nmL G n := by
  apply List.ext_getElem?
  intro j
  rw [List.getElem?_set, nmL_get', nmL_get', nmL_len, show 0 + k * 1 = k from by omega]
  by_cases hj : k = j
  · subst hj
    rw [if_pos rfl]
    by_cases h : k < n
    · rw [if_pos h, if_pos h, hk]
    · rw [if_neg h, if_neg h]
  · rw [if_neg hj, ho j (fun h => hj h.symm)]
/-- the first truth values of a function, as cells -/
def blL (f : Nat → Bool) : Nat → List Value
  | 0 => []
  | j + 1 => blL f j ++ [b_ (f j)]
theorem blL_len (f : Nat → Bool) : ∀ j, (blL f j).length = j
  | 0 => rfl
  | j + 1 => by
    show (blL f j ++ [b_ (f j)]).length = _
    rw [List.length_append, blL_len f j]; rfl
theorem blL_flat (f : Nat → Bool) : ∀ j, (blL f j).all Ex.flat = true
  | 0 => rfl
  | j + 1 => app_flat (blL_flat f j) rfl
theorem blL_get (f : Nat → Bool) : ∀ (n j : Nat), (blL f n)[j]? = if j < n then some (b_ (f j)) else none
  | 0, j => by
    show ([] : List Value)[j]? = _
    rw [if_neg (by omega)]; simp
  | n + 1, j => by
    show (blL f n ++ [b_ (f n)])[j]? = _
    by_cases hj : j < n
    · rw [List.getElem?_append_left (by rw [blL_len]; omega), blL_get f n j, if_pos hj, if_pos (by omega)]
    · rw [List.getElem?_append_right (by rw [blL_len]; omega), blL_len]
      by_cases h : j = n
      · subst h
        rw [Nat.sub_self, if_pos (by omega)]; rfl
      · rw [if_neg (by omega), List.getElem?_eq_none (by simp; omega)]
theorem blL_set {F G : Nat → Bool} {n k : Nat} (hk : G k = true) (ho : ∀ j, j ≠ k → G j = F j) : (blL F n).set (0 + k * 1) (b_ true) = blL G n := by
  apply List.ext_getElem?
  intro j
  rw [List.getElem?_set, blL_get, blL_get, blL_len, show 0 + k * 1 = k from by omega]
  by_cases hj : k = j
  · subst hj
    rw [if_pos rfl]
    by_cases h : k < n
    · rw [if_pos h, if_pos h, hk]
    · rw [if_neg h, if_neg h]
  · rw [if_neg hj, ho j (fun h => hj h.symm)]
theorem zB_len (n : Nat) : (zB n).length = n := by
  unfold zB zeroRow
  simp
theorem zB_bl (n : Nat) : zB n = blL (fun _ => false) n := by
  apply List.ext_getElem?
  intro j
  rw [blL_get]
  by_cases h : j < n
  · rw [if_pos h]
    have hj : j < (zB n).length := by rw [zB_len]; exact h
    rw [List.getElem?_eq_getElem hj]
    have hm := List.getElem_mem hj
    generalize (zB n)[j] = v at hm
    unfold zB zeroRow at hm
    simp only [Array.toList_map, List.mem_map, Array.mem_toList_iff, Array.mem_range] at hm
    obtain ⟨k, _, rfl⟩ := hm
    have hk : k % (#[b_ false] : Array Value).size < 1 := Nat.mod_lt _ (by decide)
    generalize k % (#[b_ false] : Array Value).size = m at hk
    match m, hk with
    | 0, _ => rfl
  · rw [if_neg h, List.getElem?_eq_none (by rw [zB_len]; omega)]
section
variable {cs : List Value} {n c : Nat} {lim all : Int}
theorem in1_t {out : List Value} {k : Nat} (h : k < out.length) : in1 out (0 + k * 1) = true := by
  unfold in1
  rw [decide_eq_true (by omega)]; rfl
theorem runA {Z : List Value} (h : okI cs n c) (ha : all ≠ 0) (hZ : Z.length = n) (hn : n < 1000000) : runS (stA cs n c lim all) (n + 1) (0, Z) = some (0, ((n : Int), nmL (fun j => qtE lim all (eI cs j)) n)) := by
  obtain ⟨_, hc, hl, hk⟩ := h
  have key := run_all (step := stA cs n c lim all) (st := fun j => (((j : Nat) : Int), nmL (fun j => qtE lim all (eI cs j)) j ++ Z.drop j)) (a := 0) n (fun j hj => ?_) ?_
  · have e1 : nmL (fun j => qtE lim all (eI cs j)) n ++ Z.drop n = nmL (fun j => qtE lim all (eI cs j)) n := by rw [List.drop_of_length_le (by rw [hZ]; exact Nat.le_refl _), List.append_nil]
    rw [e1] at key
    exact key
  · have hfl : (nmL (fun j => qtE lim all (eI cs j)) j).length = j := nmL_len _ _
    have hdl : (Z.drop j).length = n - j := by rw [List.length_drop, hZ]
    obtain ⟨x, B, hB⟩ : ∃ x B, Z.drop j = x :: B := by
      match hd : Z.drop j, hdl with
      | [], hdl => simp at hdl; omega
      | x :: B, _ => exact ⟨x, B, rfl⟩
    have hB2 : Z.drop (j + 1) = B := by
      rw [← List.drop_drop, hB]; rfl
    have hset : (nmL (fun j => qtE lim all (eI cs j)) j ++ Z.drop j).set (0 + j * 1) (i (qtE lim all (eI cs j))) = nmL (fun j => qtE lim all (eI cs j)) (j + 1) ++ Z.drop (j + 1) := by
      rw [hB, show 0 + j * 1 = j from by omega, set_app (by omega), hfl, Nat.sub_self, hB2]
      show _ = nmL (fun j => qtE lim all (eI cs j)) j ++ [i (qtE lim all (eI cs j))] ++ B
      rw [List.append_assoc]; rfl
    unfold stA
    dsimp only
    rw [br_t (by rw [ltF_eq]; simpa using hj), askS_sel (bnd_t hj hc), askS_sel (by exact hk j hj), askS_sel (ne_t ha), askS_sel (bnd_t hj (Nat.le_refl n)), show ((j : Nat) : Int).toNat = j from rfl, askS_sel (in1_t (by rw [List.length_append, hfl, hdl]; omega)), wsucc (by omega), hset]; rfl
  · unfold stA
    dsimp only
    rw [br_f (by rw [ltF_eq]; simp)]; rfl
theorem runI {E : Nat → Bool} (h : okI cs n c) (ha : all ≠ 0) : runS (stI_ cs n c lim all (blL E n)) (n + 1) (0, -1) = some (0, ((n : Int), bst (fun j => rmE lim all (eI cs j)) E n)) := by
  obtain ⟨_, hc, hl, hk⟩ := h
  refine run_all (step := stI_ cs n c lim all (blL E n)) (st := fun j => (((j : Nat) : Int), bst (fun j => rmE lim all (eI cs j)) E j)) (a := 0) n (fun j hj => ?_) ?_
  · have hcell : cB (blL E n) .b (j : Int) = true := by
      unfold cB
      rw [show ((j : Nat) : Int).toNat = j from rfl, show 0 + j * 1 = j from by omega, blL_get, if_pos hj]; rfl
    have hbo : boA (blL E n) (j : Int) = E j := by
      unfold boA
      rw [show ((j : Nat) : Int).toNat = j from rfl, show 0 + j * 1 = j from by omega, blL_get, if_pos hj]; rfl
    unfold stI_
    dsimp only
    rw [br_t (by rw [ltF_eq]; simpa using hj), askS_sel (bnd_t hj (Nat.le_refl n)), askS_sel hcell, hbo]
    cases hE : E j with
    | true =>
      rw [br_f (show (!true) = false from rfl)]
      unfold nxI
      rw [br_f rfl, wsucc (by omega)]
      show some _ = some (Sum.inl (((j + 1 : Nat) : Int), if _ then _ else _))
      rw [if_neg (by rw [hE]; simp)]
    | false =>
      rw [br_t (show (!false) = true from rfl)]
      rcases bst_spec (fun j => rmE lim all (eI cs j)) E j with ⟨h1, _⟩ | ⟨b, h1, h2, _⟩
      · rw [br_t (by rw [h1, ltF_eq]; rfl)]
        unfold nxI
        rw [br_t rfl, wsucc (by omega)]
        show some _ = some (Sum.inl (((j + 1 : Nat) : Int), if _ then _ else _))
        rw [if_pos ⟨hE, .inl (by rw [h1]; decide)⟩]
      · rw [br_f (by rw [h1, ltF_eq]; exact decide_eq_false (by omega)), askS_sel (bnd_t hj hc), askS_sel (by exact hk j hj), askS_sel (ne_t ha), h1, askS_sel (bnd_t (show b < n by omega) hc), askS_sel (by exact hk b (by omega)), askS_sel (ne_t ha)]
        unfold nxI
        have hr : ltF (rmA cs lim all (b : Int)) (rmA cs lim all (j : Int)) = decide (rmE lim all (eI cs b) < rmE lim all (eI cs j)) := ltF_eq _ _
        rw [hr, wsucc (by omega)]
        by_cases hlt : rmE lim all (eI cs b) < rmE lim all (eI cs j)
        · rw [br_t (decide_eq_true hlt)]
          show some _ = some (Sum.inl (((j + 1 : Nat) : Int), if _ then _ else _))
          rw [if_pos ⟨hE, .inr (by rw [h1]; exact hlt)⟩]
        · rw [br_f (decide_eq_false hlt)]
          show some _ = some (Sum.inl (((j + 1 : Nat) : Int), if _ then _ else _))
          rw [if_neg (by
            rintro ⟨_, g | g⟩
            · rw [h1] at g; omega
            · rw [h1] at g; exact hlt g), h1]
  · unfold stI_
    dsimp only
    rw [br_f (by rw [ltF_eq]; simp)]; rfl
theorem runO {F : Nat → Int} {f : Nat → Rw} (hf : ∀ j, f j = ((j : Int), (f j).2.1, rmE lim all (eI cs j))) (h : okI cs n c) (ha : all ≠ 0) (hn : n < 1000000) {l : Nat} (hl : l ≤ n) :
    runS (stO_ cs n c lim all) (l + 1) ((l : Int), nmL F n, zB n) = some (0, (0, nmL (upT (ixO f n) F l) n, blL (exT (ixO f n) l) n)) := by
  have hf1 : ∀ j, (f j).1 = (j : Int) := fun j => by rw [hf j]
  have hf2 : (fun j => (f j).2.2) = fun j => rmE lim all (eI cs j) := funext fun j => by rw [hf j]
  rw [zB_bl]
  have key := run_all (step := stO_ cs n c lim all) (st := fun j => (((l - j : Nat) : Int), nmL (upT (ixO f n) F j) n, blL (exT (ixO f n) j) n)) (a := 0) l (fun j hj => ?_) ?_
  · rw [Nat.sub_self] at key
    exact key
  · have hr := runI (lim := lim) (E := exT (ixO f n) j) h ha
    have hb := bst_ix hf1 (show j < n by omega)
    rw [hf2] at hb
    rw [hb] at hr
    obtain ⟨g1, g2⟩ := endE_eq hr
    have hi := (at_row hf1 (show j < n by omega)).2
    have hu : eI (nmL (upT (ixO f n) F j) n) (ixO f n j) = upT (ixO f n) F j (ixO f n j) := nmL_eI _ hi
    have hcb : cB (nmL (upT (ixO f n) F j) n) (.i .i64) (ixO f n j : Int) = true := by
      unfold cB
      rw [show ((ixO f n j : Nat) : Int).toNat = ixO f n j from rfl, show 0 + ixO f n j * 1 = ixO f n j from by omega, nmL_get', if_pos hi]; rfl
    have s1 : (nmL (upT (ixO f n) F j) n).set (0 + ixO f n j * 1) (i (wrapF .i64 (upT (ixO f n) F j (ixO f n j) + 1))) = nmL (upT (ixO f n) F (j + 1)) n := nmL_set (by
      show (if _ then _ else _) = _
      rw [if_pos rfl]) fun k hk => by
        show (if _ then _ else _) = _
        rw [if_neg hk]
    have s2 : (blL (exT (ixO f n) j) n).set (0 + ixO f n j * 1) (b_ true) = blL (exT (ixO f n) (j + 1)) n := blL_set (by
      show (decide _ || _) = true
      rw [decide_eq_true rfl]; rfl) fun k hk => by
        show (decide _ || _) = _
        rw [decide_eq_false hk]; rfl
    unfold stO_ inI beI
    dsimp only
    rw [br_t (by rw [ltF_eq]; exact decide_eq_true (by omega)), askS_sel (tru_iff.2 g1), askS_sel rfl, g2]
    dsimp only
    rw [show ((ixO f n j : Nat) : Int).toNat = ixO f n j from rfl, askS_sel (bnd_t hi (Nat.le_refl n)), askS_sel (in1_t (by rw [blL_len]; exact hi)), askS_sel (bnd_t hi (Nat.le_refl n)), askS_sel hcb, askS_sel (bnd_t hi (Nat.le_refl n)), askS_sel (in1_t (by rw [nmL_len]; exact hi)), hu, s1, s2,
      wrapF_in (by omega) (by omega), show (((l - j : Nat) : Int) - 1) = ((l - (j + 1) : Nat) : Int) from by omega]; rfl
  · unfold stO_
    dsimp only
    rw [br_f (by rw [ltF_eq, Nat.sub_self]; rfl)]; rfl
end
end Go.Proofs.YtafpmehhdcmllaaGreatDoor.Ways
set_option maxRecDepth 10000
noncomputable section
namespace Go.Proofs.YtafpmehhdcmllaaGreatDoor.Ways
open Go Go.Ex Go.RowKit Go.Ex.Srt
/-! ### the reference's Curtail: the contract -/
theorem psm_ext {e f : Nat → Int} : ∀ {n : Nat}, (∀ j, j < n → e j = f j) → psm e n = psm f n
  | 0, _ => rfl
  | n + 1, h => by
    show psm e n + e n = psm f n + f n
    rw [psm_ext fun j hj => h j (by omega), h n (by omega)]
theorem lft_psm {e : Nat → Int} {S lim : Int} : ∀ n, lft e S lim n = lim - psm (fun j => e j * lim / S) n
  | 0 => by simp [lft, psm]
  | n + 1 => by
    show lft e S lim n - e n * lim / S = lim - (psm (fun j => e j * lim / S) n + e n * lim / S)
    rw [lft_psm n]; omega
theorem left_eq {cs : List Value} {n c : Nat} {lim : Int} (h : VaE cs n c lim) (hs : lim < sumW (eI cs) n) : wrapF .i64 (lim - sumW (eI (nmL (qF cs n lim) n)) n) = ((leC cs n lim).toNat : Int) := by
  have hb := leC_bd h hs
  obtain ⟨_, h2, h3, h4, h5⟩ := h
  have hq : ∀ j, j < n → eI (nmL (qF cs n lim) n) j = eI cs j * lim / sumW (eI cs) n := fun j hj => by
    rw [nmL_eI _ hj]
    exact (qt_eq (h3 j hj).1 (h3 j hj).2 h4 h5 hs).1
  have hqb : ∀ j, j < n → 0 ≤ eI (nmL (qF cs n lim) n) j ∧ eI (nmL (qF cs n lim) n) j ≤ 100000 := fun j hj => by
    rw [hq j hj]
    have h6 := qt_bd hs h4 (h3 j hj).1
    have h7 := h3 j hj
    omega
  have e1 : sumW (eI (nmL (qF cs n lim) n)) n = psm (fun j => eI cs j * lim / sumW (eI cs) n) n := by
    rw [sum_psm h2 hqb (Nat.le_refl n)]
    exact psm_ext hq
  have e2 : leC cs n lim = lim - psm (fun j => eI cs j * lim / sumW (eI cs) n) n := by
    unfold leC
    rw [left_lft h2 h3 h4 h5 hs (Nat.le_refl n), lft_psm]
  rw [e1, ← e2, wrapF_in (by omega) (by omega)]
  omega
def sp43 (g : Bool) : NSpec := fun al css => match al, css with
  | [.slice (some ⟨4, 0, none⟩) n c, .int .i64 lim], [cs] => cond g (some (CuE true cs n c lim, .sl n n cs 3 1 false)) (some (CuE false cs n c lim, .sl n n (nmL (resF cs n lim) n) 3 1 false))
  | _, _ => none
theorem c43 (g : Bool) : ∀ al css os p v, sp43 g al css = some (p, v) → p → Blks css os → (∀ cs ∈ css, cs.all Ex.flat = true) ∧ v.Ok Tryz.prog 43 al deads os (gl + css.length) := by
  intro al css os p v hs hp hb
  unfold sp43 at hs
  split at hs
  case h_2 => cases hs
  rename_i n c lim cs
  obtain ⟨t, s, x, rfl⟩ := blks1 hb
  cases g with
  | true =>
    cases hs
    obtain ⟨⟨⟨p1, p2, p3, p4⟩, _⟩, hg⟩ := hp
    have hg' : sumW (eI cs) n ≤ lim := hg
    refine ⟨by simpa using p1.1, ?_⟩
    refine news_ok (C := K43z) (n := 80) tse .none (z43 cs n c lim t s x) (b := 6) ((congrArg NT.sel (w43 cs n c lim t s x)).trans ?_) (show 5 ≤ 6 by decide) p1.1
    rw [asN_t (apB_t p2 p1.2.1 p3 (by omega)), asN_t (tru_iff.2 p1), nb_t (by rw [leF_eq]; exact decide_eq_true hg')]
    unfold tk1
    rw [tk_all (by omega)]; rfl
  | false =>
    cases hs
    obtain ⟨hv, hg⟩ := hp
    have hg' : lim < sumW (eI cs) n := hg
    have hb := leC_bd hv hg'
    have hl := left_eq hv hg'
    obtain ⟨⟨p1, p2, p3, p4⟩, _, _, v4, _⟩ := hv
    have ha : sumW (eI cs) n ≠ 0 := by omega
    refine ⟨by simpa using p1.1, ?_⟩
    have htk : tk1 cs n = cs := by unfold tk1; exact tk_all (by omega)
    have h1 : runS (stA cs n c lim (sumW (eI cs) n)) (n + 1) (0, tk1 cs n) = some (0, ((n : Int), nmL (qF cs n lim) n)) := by
      rw [htk]; exact runA p1 ha p4 p3
    have h2 := runO (lim := lim) (all := sumW (eI cs) n) (F := qF cs n lim) (f := fF cs n lim) (fun j => rfl) p1 ha p3 (l := (leC cs n lim).toNat) (by omega)
    rw [← hl] at h2
    have hL : LSound Tryz.prog 5 (LK43 cs n c lim t s x (nmL (qF cs n lim) n) (nmL (resF cs n lim) n) (blL (exT (ixO (fF cs n lim) n) (leC cs n lim).toNat) n) n 0) := by
      have a1 := (LrA (cs := cs) (n := n) (c := c) (lim := lim) (all := sumW (eI cs) n) (t := t) (s := s) (x := x) p1.1).table (id := 6) (s0 := (0, tk1 cs n)) .none (by decide) (by rw [htk]; exact p1.1) h1 (by kernel_rfl) [0]
      exact (LrO (cs := cs) (n := n) (c := c) (lim := lim) (all := sumW (eI cs) n) (t := t) (s := s) (x := x) p1.1).table (id := 11) (s0 := (wrapF .i64 (lim - sumW (eI (nmL (qF cs n lim) n)) n), nmL (qF cs n lim) n, zB n)) a1 (by decide) ⟨nmL_flat _ _, by rw [zB_bl]; exact blL_flat _ _⟩ h2 (by kernel_rfl) [0]
    refine news_ok (C := K43 cs n c lim t s x (nmL (qF cs n lim) n) (nmL (resF cs n lim) n) (blL (exT (ixO (fF cs n lim) n) (leC cs n lim).toNat) n) n 0) (n := 80) tse hL (x43 cs n c lim t s x _ _ _ _ _) (b := 6) ((congrArg NT.sel (v43 cs n c lim t s x _ _ _ _ _)).trans ?_) (show 5 ≤ 6 by decide) (nmL_flat _ _)
    have h3 : (leF 0 n && (leF n n && leF n 1048576)) = true := by
      rw [leF_eq, leF_eq, leF_eq, decide_eq_true (by omega), decide_eq_true (by omega), decide_eq_true (by omega)]; rfl
    unfold v43T
    rw [asN_t (apB_t p2 p1.2.1 p3 (by omega)), asN_t (tru_iff.2 p1), nb_f (by rw [leF_eq]; exact decide_eq_false (by omega)), asN_t rfl, asN_t h3, asN_t (tru_iff.2 (nmL_ok _ p3)), asN_t rfl]; rfl
end Go.Proofs.YtafpmehhdcmllaaGreatDoor.Ways
