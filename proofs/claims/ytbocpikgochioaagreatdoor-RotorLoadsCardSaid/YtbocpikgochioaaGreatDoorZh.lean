import Derived.Test.YtbocpikgochioaaGreatDoorZg
namespace Go.Proofs.YtbocpikgochioaaGreatDoor.Ways
open Go Go.Ex
def SplitS : List Value → Option Value
  | [.agg ⟨[.int .i64 x, .int .i64 y, .int .i64 z]⟩] => some (SplitV x y z)
  | _ => none
def MergeS : List Value → Option Value
  | [.int .i64 s, .agg ⟨[.int .i64 a, .int .i64 b]⟩] => some (MergeV s a b)
  | _ => none
noncomputable def T13 : Tb := ext (ext (ext T12 Fn.rotor_Split (pureE SplitS [0] Hg)) Fn.rotor_Merge (pureE MergeS [0] Hg)) Fn.law03_awake (pureE awS [0, 1, 2, 3] Ha)
theorem ts13 {G : Nat} : TSound Tryz.prog G T13 := by
  refine (((ts12.pure hg_vars fun args v h => ?_).pure hg_vars fun args v h => ?_).pure ha_vars fun args v h => ?_)
  · unfold SplitS at h
    split at h
    · cases h; exact Split_pure _ _ _
    · cases h
  · unfold MergeS at h
    split at h
    · cases h; exact Merge_pure _ _ _
    · cases h
  · unfold awS at h
    split at h
    · cases h; exact aw_pure
    · cases h
theorem gG_flat : ∀ o ∈ gG, FlatO o := by
  intro o ho
  simp [gG] at ho
  rcases ho with rfl | rfl
  · exact fun x hx => List.all_eq_true.1 flatP x hx
  · trivial
theorem gG_mem : ∀ (b : Nat) (o : CO), gG[b]? = some o → o.alive = true → b ∈ [0] := by
  intro b o h ha
  match b, h with
  | 0, _ => simp
  | 1, h | 2, h | 3, h => cases h; cases ha
  | k + 4, h => simp [gG] at h
noncomputable def T14 : Tb := ext (ext (ext (ext T13 Fn.rotor_Rotating (lstE OkR (partV fRot) [0] (heapL gG))) Fn.rotor_Fixed (lstE OkR (partV fFix) [0] (heapL gG))) Fn.ref03_Rotating (lstE OkR (refV rRot) [] Hp.nil)) Fn.ref03_Fixed (lstE OkR (refV rFix) [] Hp.nil)
theorem ts14 {G : Nat} : TSound Tryz.prog G T14 := by
  refine (((ts13.ext (lst_okg rfl gG_flat gG_mem (fun cs n c h => h.1) (fun _ _ => rfl) fun cs n c t s ex h => ?_)).ext (lst_okg rfl gG_flat gG_mem (fun cs n c h => h.1) (fun _ _ => rfl) fun cs n c t s ex h => ?_)).ext (lst_ok (fun cs n c h => h.1) (fun _ _ => rfl) fun cs n c t s ex h => ?_)).ext (lst_ok (fun cs n c h => h.1) (fun _ _ => rfl) fun cs n c t s ex h => ?_)
  · obtain ⟨h1, h2, h3, rfl⟩ := h
    exact rot_small h1 h2 h3
  · obtain ⟨h1, h2, h3, rfl⟩ := h
    exact fix_small h1 h2 h3
  · obtain ⟨h1, h2, h3, rfl⟩ := h
    exact r53_small h1 h2 h3
  · obtain ⟨h1, h2, h3, rfl⟩ := h
    exact r54_small h1 h2 h3
/-- the first one of two -/
noncomputable def first2E : Ent := fun args H =>
  match args with
  | [.slice (some ⟨b, 0, none⟩) 2 2] => match H[b]? with
    | some (.cells [.int .i64 x, .int .i64 y] _ _ _) => cond (Nat.ble gl b) (some (none, i (firstE x y), H, [])) none
    | _ => none
  | _ => none
theorem rf2_small (x y : Int) (t s : Nat) (ex : Bool) : ∃ H', Sound Tryz.prog 5 (.call Fn.ref01_First ⟨[sl 4 0 2 2]⟩ (small1 (.cells [i x, i y] t s ex))) (.val (i (firstE x y)) H') := by
  obtain ⟨H', hs⟩ := Out.vals_sel (o := execO Tryz.prog 5 C1 40 (.call Fn.ref01_First ⟨[sl 4 0 2 2]⟩ (small1 (.cells [i x, i y] t s ex)))) (v := i (firstE x y)) (by kernel_rfl) (by
    rw [show (execO Tryz.prog 5 C1 40 (.call Fn.ref01_First ⟨[sl 4 0 2 2]⟩ (small1 (.cells [i x, i y] t s ex)))).vals = ways2 x y i from by kernel_rfl]
    exact ways2_sel _ _ _)
  exact ⟨H', execO_sound (C := C1) ts1 .none 40 _ _ hs⟩
noncomputable def T15 : Tb := ext T14 Fn.ref01_First first2E
theorem ts15 {G : Nat} : TSound Tryz.prog G T15 := by
  refine ts14.ext fun args H c v H' l he _ _ => ?_
  unfold first2E at he
  split at he
  case h_2 => cases he
  rename_i b
  split at he
  case h_2 => cases he
  rename_i x y t s ex hb
  cases hg : Nat.ble gl b with
  | false => rw [hg] at he; cases he
  | true =>
    rw [hg] at he
    cases he
    obtain ⟨H2, h2⟩ := rf2_small x y t s ex
    exact Sound.slice1 hb (Nat.le_of_ble_eq_true hg) h2 rfl rfl rfl
noncomputable def CW : Cfg := ⟨T15, at_ [(Fn.law03_RotorLoads, 27), (Fn.law03_RotorLoads, 31), (Fn.law03_RotorLoads, 78), (Fn.law03_RotorLoads, 94), (Fn.law03_RotorLoads, 104), (Fn.law03_RotorLoads, 113), (Fn.law03_RotorLoads, 119), (Fn.law03_RotorLoads, 124), (Fn.law03_RotorLoads, 129), (Fn.law03_RotorLoads, 136), (Fn.law03_RotorLoads, 143)] .bool C8.sp, on_ [(Fn.law03_RotorLoads, 53), (Fn.law03_RotorLoads, 60), (Fn.law03_RotorLoads, 200053), (Fn.law03_RotorLoads, 200060)], noL⟩
noncomputable def CW0 : Cfg := ⟨T15, CW.sp, off_, noL⟩
noncomputable def hpW (cs : List Value) (t s : Nat) : List CO := [.cells powers 180 1 true, .cells pow10 201 1 true, .cells tab32 208 1 true, .cells tab64 209 1 true, .cells cs t s false]
def xV (x y z s a b : Int) : Value := ag [i x, i y, i z, i s, i a, i b]
def pos (b : Bool) (k : VT) : VT := .br b k (lf false)
section
variable (x y z s a b : Int)
def twE : Int := firstE (rangeE s (-3000000) 3000000) (pairE a b)
/-- the last comparisons -/
def finV (e3 e4 rA rB fA fB uA uB vA vB sum qA qB m0 m1 m2 tw : Int) : VT :=
  pos (like1E (okE (inE x y z) (sE x y z)) (inE x y z) (inE x y z) sum) (pos (likeE (okE (inE x y z) (aE x y z)) (okE (inE x y z) (bE x y z)) (inE x y z) (inE x y z) qA qB) (pos (eqF (mErrE s a b) tw)
    (pos (okE (mErrE s a b) (mXE s a b) == m0 && (okE (mErrE s a b) (mYE s a b) == m1 && (okE (mErrE s a b) (thE s a b) == m2 && true)))
      (pos (likeE rA rB e3 e4 uA uB) (pos (likeE fA fB e3 e4 vA vB) (lf true))))))
def s2V (okk : Bool) (e3 e4 rA rB fA fB uA uB vA vB sum qA qB m0 m1 m2 tw : Int) : VT :=
  .br (eqF e4 0) (.br okk (.br okk (finV x y z s a b e3 e4 rA rB fA fB uA uB vA vB sum qA qB m0 m1 m2 tw) .fail) .fail) (finV x y z s a b e3 e4 rA rB fA fB 0 0 0 0 sum qA qB m0 m1 m2 tw)
def s1V (okk : Bool) (e3 e4 rA rB fA fB uA uB vA vB sum qA qB : Int) : VT :=
  .br (eqF (twE s a b) 0) (s2V x y z s a b okk e3 e4 rA rB fA fB uA uB vA vB sum qA qB (okE (rmErrE s a b) (r0E s a b)) (okE (rmErrE s a b) (r1E s a b)) (okE (rmErrE s a b) (r2E s a b)) (rmErrE s a b))
    (s2V x y z s a b okk e3 e4 rA rB fA fB uA uB vA vB sum qA qB 0 0 0 (twE s a b))
def s0V (okk : Bool) (e3 e4 rA rB fA fB uA uB vA vB : Int) : VT :=
  .br (eqF (inE x y z) 0) (s1V x y z s a b okk e3 e4 rA rB fA fB uA uB vA vB (wrapF .i64 (wrapF .i64 (x + y) + z)) (cpA x y z) (cpB x y z)) (s1V x y z s a b okk e3 e4 rA rB fA fB uA uB vA vB 0 0 0)
def resA (f : List Value → Nat → Int → Int → Int × Int) (cs : List Value) (n : Nat) : Int := okE (recE cs n) (accF (f cs) n 0 0 0).1
def resB (f : List Value → Nat → Int → Int → Int × Int) (cs : List Value) (n : Nat) : Int := okE (recE cs n) (accF (f cs) n 0 0 0).2
/-- behind the appends: ct, what was appended -/
def sV (okk : Bool) (ct cs : List Value) (n : Nat) : VT :=
  s0V x y z s a b okk (recE ct n) (recE cs n) (resA fRot ct n) (resB fRot ct n) (resA fFix ct n) (resB fFix ct n) (accF (rRot cs) n 0 0 0).1 (accF (rRot cs) n 0 0 0).2 (accF (rFix cs) n 0 0 0).1 (accF (rFix cs) n 0 0 0).2
end
def cT (cs : List Value) (n : Nat) : List Value := List.take (n * 3) (List.drop 0 cs)
def c0B (cs : List Value) (n : Nat) : Bool := !decide (n = 0) && (decide (n ≤ n) && (decide (n ≤ 1048576) && decide (0 + n * 3 ≤ cs.length)))
def top (n : Int) (M : VT) : VT := .br (ltF 20 n) (.br (!eqF n 401) (lf true) M) M
def ask (b : Bool) (k : VT) : VT := .br b k .fail
noncomputable def lawV (x y z s a b : Int) (cs : List Value) (n : Nat) : VT :=
  top n (ask (c0B cs n) (ask (tru (OkR (cT cs n) n n)) (ask (c0B cs n) (ask (tru (OkR (cT cs n) n n)) (ask (tru (OkR cs n n)) (sV x y z s a b (tru (OkR cs n n)) (cT cs n) cs n))))))
theorem law_run (x y z s a b : Int) (cs : List Value) (n t ss : Nat) : (execO Tryz.prog 5 CW 40 (.call Fn.law03_RotorLoads ⟨[xV x y z s a b, sl 4 0 n n]⟩ (heapL (hpW cs t ss)))).vals = lawV x y z s a b cs n := by kernel_rfl
theorem law_fix (x y z s a b : Int) (cs : List Value) (n t ss : Nat) : execO Tryz.prog 5 CW 40 (.call Fn.law03_RotorLoads ⟨[xV x y z s a b, sl 4 0 n n]⟩ (heapL (hpW cs t ss))) = (execO Tryz.prog 5 CW 40 (.call Fn.law03_RotorLoads ⟨[xV x y z s a b, sl 4 0 n n]⟩ (heapL (hpW cs t ss)))).fix := by kernel_rfl
noncomputable def lawV0 (x y z s a b : Int) : VT :=
  top 0 (ask (tru (OkR [] 0 0)) (ask (tru (OkR [] 0 0)) (ask (tru (OkR [] 0 0)) (sV x y z s a b (tru (OkR [] 0 0)) [] [] 0))))
theorem law_run0 (x y z s a b : Int) (t ss : Nat) : (execO Tryz.prog 5 CW0 40 (.call Fn.law03_RotorLoads ⟨[xV x y z s a b, sl 4 0 0 0]⟩ (heapL (hpW [] t ss)))).vals = lawV0 x y z s a b := by kernel_rfl
theorem law_fix0 (x y z s a b : Int) (t ss : Nat) : execO Tryz.prog 5 CW0 40 (.call Fn.law03_RotorLoads ⟨[xV x y z s a b, sl 4 0 0 0]⟩ (heapL (hpW [] t ss))) = (execO Tryz.prog 5 CW0 40 (.call Fn.law03_RotorLoads ⟨[xV x y z s a b, sl 4 0 0 0]⟩ (heapL (hpW [] t ss)))).fix := by kernel_rfl
end Go.Proofs.YtbocpikgochioaaGreatDoor.Ways
