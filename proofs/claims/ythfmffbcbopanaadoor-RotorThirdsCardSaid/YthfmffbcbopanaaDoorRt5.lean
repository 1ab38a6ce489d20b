import Derived.Test.YthfmffbcbopanaaDoorRt4
namespace Go.Proofs.YthfmffbcbopanaaDoor.Ways
open Go Go.Ex
def errR (e : Int) : Value := tp [ag [i 0, i 0], i e]
def tAt (k : Nat) (a b : Int) : Int := turnAE a b (match k with | 0 => 0 | 1 => 1 | _ => 2)
def rotA (x0 y0 z0 x1 y1 z1 x2 y2 z2 : Int) : Int := plE (plE (plE 0 (aE x0 y0 z0)) (aE x1 y1 z1)) (aE x2 y2 z2)
def rotB (x0 y0 z0 x1 y1 z1 x2 y2 z2 : Int) : Int := plE (plE (plE 0 (bE x0 y0 z0)) (bE x1 y1 z1)) (bE x2 y2 z2)
def fixA (x0 y0 z0 x1 y1 z1 x2 y2 z2 : Int) : Int := plE (plE (plE 0 (turnAE (aE x0 y0 z0) (bE x0 y0 z0) 0)) (turnAE (aE x1 y1 z1) (bE x1 y1 z1) 1)) (turnAE (aE x2 y2 z2) (bE x2 y2 z2) 2)
def fixB (x0 y0 z0 x1 y1 z1 x2 y2 z2 : Int) : Int := plE (plE (plE 0 (turnBE (aE x0 y0 z0) (bE x0 y0 z0) 0)) (turnBE (aE x1 y1 z1) (bE x1 y1 z1) 1)) (turnBE (aE x2 y2 z2) (bE x2 y2 z2) 2)
def e3E (x0 y0 z0 x1 y1 z1 x2 y2 z2 : Int) : Int := err3E (inE x0 y0 z0) (inE x1 y1 z1) (inE x2 y2 z2)
def RotV (x0 y0 z0 x1 y1 z1 x2 y2 z2 : Int) : Value := resP (e3E x0 y0 z0 x1 y1 z1 x2 y2 z2) (rotA x0 y0 z0 x1 y1 z1 x2 y2 z2) (rotB x0 y0 z0 x1 y1 z1 x2 y2 z2)
def FixV (x0 y0 z0 x1 y1 z1 x2 y2 z2 : Int) : Value := resP (e3E x0 y0 z0 x1 y1 z1 x2 y2 z2) (fixA x0 y0 z0 x1 y1 z1 x2 y2 z2) (fixB x0 y0 z0 x1 y1 z1 x2 y2 z2)
section
variable (x0 y0 z0 x1 y1 z1 x2 y2 z2 : Int) (t s : Nat) (ex : Bool)
theorem rot_small : ∃ H', Sound Tryd.prog 5 (.call 22 ⟨[.slice (some ⟨4, 0, none⟩) 3 3]⟩ (small1g gG (.cells (three x0 y0 z0 x1 y1 z1 x2 y2 z2) t s ex))) (.val (RotV x0 y0 z0 x1 y1 z1 x2 y2 z2) H') := by
  obtain ⟨H', hs⟩ := Out.vals_sel (o := execO Tryd.prog 5 C8 60 (.call 22 ⟨[.slice (some ⟨4, 0, none⟩) 3 3]⟩ (small1g gG (.cells (three x0 y0 z0 x1 y1 z1 x2 y2 z2) t s ex)))) (v := RotV x0 y0 z0 x1 y1 z1 x2 y2 z2) (by kernel_rfl) (by
    rw [show (execO Tryd.prog 5 C8 60 (.call 22 ⟨[.slice (some ⟨4, 0, none⟩) 3 3]⟩ (small1g gG (.cells (three x0 y0 z0 x1 y1 z1 x2 y2 z2) t s ex)))).vals =
      fst3 (inE x0 y0 z0) (inE x1 y1 z1) (inE x2 y2 z2) fun e => ways1 e errR (tp [ag [i (rotA x0 y0 z0 x1 y1 z1 x2 y2 z2), i (rotB x0 y0 z0 x1 y1 z1 x2 y2 z2)], i 0]) from by kernel_rfl]
    rw [fst3_sel, ways1_sel]
    exact congrArg some (resP_eq _ _ _))
  exact ⟨H', execO_sound (C := C8) ts8 .none 60 _ _ hs⟩
theorem fix_small : ∃ H', Sound Tryd.prog 5 (.call 23 ⟨[.slice (some ⟨4, 0, none⟩) 3 3]⟩ (small1g gG (.cells (three x0 y0 z0 x1 y1 z1 x2 y2 z2) t s ex))) (.val (FixV x0 y0 z0 x1 y1 z1 x2 y2 z2) H') := by
  obtain ⟨H', hs⟩ := Out.vals_sel (o := execO Tryd.prog 5 C8 60 (.call 23 ⟨[.slice (some ⟨4, 0, none⟩) 3 3]⟩ (small1g gG (.cells (three x0 y0 z0 x1 y1 z1 x2 y2 z2) t s ex)))) (v := FixV x0 y0 z0 x1 y1 z1 x2 y2 z2) (by kernel_rfl) (by
    rw [show (execO Tryd.prog 5 C8 60 (.call 23 ⟨[.slice (some ⟨4, 0, none⟩) 3 3]⟩ (small1g gG (.cells (three x0 y0 z0 x1 y1 z1 x2 y2 z2) t s ex)))).vals =
      fst3 (inE x0 y0 z0) (inE x1 y1 z1) (inE x2 y2 z2) fun e => ways1 e errR (tp [ag [i (fixA x0 y0 z0 x1 y1 z1 x2 y2 z2), i (fixB x0 y0 z0 x1 y1 z1 x2 y2 z2)], i 0]) from by kernel_rfl]
    rw [fst3_sel, ways1_sel]
    exact congrArg some (resP_eq _ _ _))
  exact ⟨H', execO_sound (C := C8) ts8 .none 60 _ _ hs⟩
end
noncomputable def recE (val : Int → Int → Int → Int → Int → Int → Int → Int → Int → Value) : Ent := fun args H =>
  match args with
  | [.slice (some ⟨b, 0, none⟩) 3 3] => match H[b]? with
    | some (.cells [.int .i64 x0, .int .i64 y0, .int .i64 z0, .int .i64 x1, .int .i64 y1, .int .i64 z1, .int .i64 x2, .int .i64 y2, .int .i64 z2] _ _ _) => cond (Nat.ble gl b) (some (none, val x0 y0 z0 x1 y1 z1 x2 y2 z2, H, reqs [0] Hg H)) none
    | _ => none
  | _ => none
theorem rec_ok {G : Nat} {f : FuncId} {val : Int → Int → Int → Int → Int → Int → Int → Int → Int → Value} (hc : ∀ x0 y0 z0 x1 y1 z1 x2 y2 z2, clean 6 (val x0 y0 z0 x1 y1 z1 x2 y2 z2) = true)
    (h : ∀ x0 y0 z0 x1 y1 z1 x2 y2 z2 t s ex, ∃ H', Sound Tryd.prog 5 (.call f ⟨[.slice (some ⟨4, 0, none⟩) 3 3]⟩ (small1g gG (.cells (three x0 y0 z0 x1 y1 z1 x2 y2 z2) t s ex))) (.val (val x0 y0 z0 x1 y1 z1 x2 y2 z2) H')) :
    ∀ args H c v H' l, recE val args H = some (c, v, H', l) → c.getD true = true → Same l → Sound Tryd.prog G (.call f ⟨args⟩ H) (.val v H') := by
  intro args H c v H' l he _ hs
  unfold recE at he
  split at he
  case h_2 => cases he
  rename_i b
  split at he
  case h_2 => cases he
  rename_i x0 y0 z0 x1 y1 z1 x2 y2 z2 t s ex hb
  cases hg : Nat.ble gl b with
  | false => rw [hg] at he; cases he
  | true =>
    rw [hg] at he
    cases he
    obtain ⟨H2, h2⟩ := h x0 y0 z0 x1 y1 z1 x2 y2 z2 t s ex
    have h0 : H[0]? = some (.cells powers 118 1 true) := hs (H[0]?, Hg[0]?) (by simp [reqs])
    refine Sound.slice1g (g := gG) rfl ?_ ?_ hb (Nat.le_of_ble_eq_true hg) h2 (hc _ _ _ _ _ _ _ _ _) rfl rfl
    · intro o ho
      simp [gG] at ho
      rcases ho with rfl | rfl
      · intro x hx
        exact List.all_eq_true.1 (show powers.all Ex.flat = true from by kernel_rfl) x hx
      · trivial
    · intro b' o ho ha
      match b', ho with
      | 0, ho => cases ho; exact h0
      | 1, ho | 2, ho | 3, ho => cases ho; cases ha
      | n + 4, ho => simp [gG] at ho
def SplitS : List Value → Option Value
  | [.agg ⟨[.int .i64 x, .int .i64 y, .int .i64 z]⟩] => some (SplitV x y z)
  | _ => none
def MergeS : List Value → Option Value
  | [.int .i64 s, .agg ⟨[.int .i64 a, .int .i64 b]⟩] => some (MergeV s a b)
  | _ => none
noncomputable def T9 : Tb := ext (ext (ext (ext T8 20 (pureE SplitS [0] Hg)) 21 (pureE MergeS [0] Hg)) 22 (recE RotV)) 23 (recE FixV)
theorem ts9 {G : Nat} : TSound Tryd.prog G T9 := by
  refine TSound.ext (TSound.ext ((ts8.pure hg_vars fun args v h => ?_).pure hg_vars fun args v h => ?_) (rec_ok (fun _ _ _ _ _ _ _ _ _ => rfl) rot_small)) (rec_ok (fun _ _ _ _ _ _ _ _ _ => rfl) fix_small)
  · unfold SplitS at h
    split at h
    · cases h; exact Split_pure _ _ _
    · cases h
  · unfold MergeS at h
    split at h
    · cases h; exact Merge_pure _ _ _
    · cases h
end Go.Proofs.YthfmffbcbopanaaDoor.Ways
