import Derived.Test.YtdnogbdfiahcaaaGreatWr2
noncomputable section
namespace Go.Proofs.YtdnogbdfiahcaaaGreat.Ways
open Go Go.Ex Go.RowKit
/-! ### lists of lists of truth values -/
structure Lx where
  cs : List Value
  n : Nat
  c : Nat
  t : Nat
  s : Nat
  ex : Bool
def Lx.blk (x : Lx) : CO := .cells x.cs x.t x.s x.ex
def cellsN : Nat → List Lx → List Value
  | _, [] => []
  | b, x :: r => sl b 0 x.n x.c :: cellsN (b + 1) r
def blksN (L : List Lx) : List CO := L.map Lx.blk
def mkL : Nat → List Value → List CO → Option (List Lx)
  | _, [], [] => some []
  | b, .slice (some ⟨b', off, none⟩) n c :: r, .cells cs t s ex :: q => cond (Nat.beq b b' && Nat.beq off 0) ((mkL (b + 1) r q).map fun l => ⟨cs, n, c, t, s, ex⟩ :: l) none
  | _, _, _ => none
theorem mkL_eq : ∀ (vs : List Value) (b : Nat) (os : List CO) (L : List Lx), mkL b vs os = some L → vs = cellsN b L ∧ os = blksN L
  | [], b, [], L, h => by cases h; exact ⟨rfl, rfl⟩
  | [], b, o :: os, L, h => by cases h
  | v :: r, b, [], L, h => by
    unfold mkL at h
    split at h <;> first
      | (cases h; done)
      | (rename_i hh _; cases hh; done)
      | (rename_i hh; cases hh; done)
  | v :: r, b, o :: q, L, h => by
    have h2 : ∃ n c cs t s ex l, v = sl b 0 n c ∧ o = .cells cs t s ex ∧ mkL (b + 1) r q = some l ∧ L = ⟨cs, n, c, t, s, ex⟩ :: l := by
      unfold mkL at h
      split at h
      · rename_i hh _; cases hh
      · rename_i h1 h2
        cases h1
        cases h2
        rename_i b _ _ _ b' off n c cs t s ex
        cases hb : Nat.beq b b' && Nat.beq off 0 with
        | false => rw [hb] at h; cases h
        | true =>
          rw [hb] at h
          rw [Bool.and_eq_true] at hb
          have e1 := Nat.eq_of_beq_eq_true hb.1
          have e2 := Nat.eq_of_beq_eq_true hb.2
          subst e1
          subst e2
          cases hm : mkL (b + 1) r q with
          | none => rw [hm] at h; cases h
          | some l => rw [hm] at h; cases h; exact ⟨_, _, _, _, _, _, l, rfl, rfl, rfl, rfl⟩
      · cases h
    obtain ⟨n, c, cs, t, s, ex, l, rfl, rfl, h3, rfl⟩ := h2
    obtain ⟨g1, g2⟩ := mkL_eq r (b + 1) q l h3
    exact ⟨by rw [g1]; rfl, by rw [g2]; rfl⟩
def okL (L : List Lx) : Prop := ∀ x ∈ L, okB x.cs x.n x.c
/-- a slice of slices: its heap -/
def hpL2 (L : List Lx) (t s : Nat) (ex : Bool) : List CO := .cells (cellsN 2 L) t s ex :: blksN L
theorem okL_flat {L : List Lx} {o : CO} (h : okL L) : ∀ o' ∈ (o :: blksN L).drop 1, FlatO o' := by
  intro o' ho
  rw [List.drop_succ_cons, List.drop_zero] at ho
  obtain ⟨x, hx, rfl⟩ := List.mem_map.1 ho
  exact fun y hy => List.all_eq_true.1 (h x hx).1 y hy
end Go.Proofs.YtdnogbdfiahcaaaGreat.Ways
noncomputable section
namespace Go.Proofs.YtdnogbdfiahcaaaGreat.Ways
open Go Go.Ex Go.RowKit
/-! ### checks of lists -/
noncomputable def spK : Nat → Nat → Split := at_ [(93, 18), (21, 23), (21, 33)] .bool no_
def le (e : Int) : NT := .leaf 1000000 (.old (i e))
/-! the reference's CheckVote -/
def t21l (n0 : Nat) (e : NT) : List Lx → NT
  | [] => e
  | x :: r => .br (ltF 1024 x.n) (le 5) (.br (!eqF x.n n0) (le 2) (t21l n0 e r))
def t21 (m : Int) : List Lx → NT
  | [] => le 12
  | x :: r => cond (Nat.blt 8 (r.length + 1)) (le 5) (t21l x.n (le (rgE m 1 (r.length + 1))) (x :: r))
noncomputable def CK1 : Cfg := ⟨T9, spK, off_, noL⟩
noncomputable def o21 (L : List Lx) (t s : Nat) (ex : Bool) (m : Int) : Out QRes := execO Tryz.prog (gl + (hpL2 L t s ex).length) CK1 60 (.call 21 ⟨[sl 1 0 L.length L.length, i m]⟩ (heapL (deads ++ hpL2 L t s ex)))
theorem v21 : ∀ (L : List Lx) (t s : Nat) (ex : Bool) (m : Int), L.length ≤ 9 → (o21 L t s ex m).news = t21 m L ∧ o21 L t s ex m = (o21 L t s ex m).fix
  | [], t, s, ex, m, _ => ⟨by kernel_rfl, by kernel_rfl⟩
  | [a], t, s, ex, m, _ => ⟨by kernel_rfl, by kernel_rfl⟩
  | [a, b], t, s, ex, m, _ => ⟨by kernel_rfl, by kernel_rfl⟩
  | [a, b, d], t, s, ex, m, _ => ⟨by kernel_rfl, by kernel_rfl⟩
  | [a, b, d, e], t, s, ex, m, _ => ⟨by kernel_rfl, by kernel_rfl⟩
  | [a, b, d, e, f], t, s, ex, m, _ => ⟨by kernel_rfl, by kernel_rfl⟩
  | [a, b, d, e, f, h], t, s, ex, m, _ => ⟨by kernel_rfl, by kernel_rfl⟩
  | [a, b, d, e, f, h, j], t, s, ex, m, _ => ⟨by kernel_rfl, by kernel_rfl⟩
  | [a, b, d, e, f, h, j, k], t, s, ex, m, _ => ⟨by kernel_rfl, by kernel_rfl⟩
  | [a, b, d, e, f, h, j, k, l], t, s, ex, m, _ => ⟨by kernel_rfl, by kernel_rfl⟩
  | _ :: _ :: _ :: _ :: _ :: _ :: _ :: _ :: _ :: _ :: L, _, _, _, _, h => by simp at h
/-! the program's Each over lists -/
def eL (n n0 : Nat) : Int := fst2 (mnE n 1024) (shB n n0)
noncomputable def t93l (n0 : Nat) : List Lx → NT
  | [] => le 0
  | x :: r => .br (tru (x.cs.all Ex.flat = true)) (.br (tru (okI [i (mnE x.n 1024), i (shB x.n n0)] 2 2)) (.br (!eqF (eL x.n n0) 0) (le (eL x.n n0)) (t93l n0 r)) .fail) .fail
noncomputable def t93 : List Lx → NT
  | [] => le 0
  | x :: r => t93l x.n (x :: r)
def hp93 (L : List Lx) (t s t2 s2 : Nat) (ex e2 : Bool) : List CO := .cells (cellsN 3 L) t s ex :: .cells [sl 1 0 L.length L.length] t2 s2 e2 :: blksN L
noncomputable def o93 (L : List Lx) (t s t2 s2 : Nat) (ex e2 : Bool) : Out QRes := execO Tryz.prog (gl + (hp93 L t s t2 s2 ex e2).length) CK1 60 (.call 93 ⟨[sl 1 0 L.length L.length, fnc 94 [pt 2 0]]⟩ (heapL (deads ++ hp93 L t s t2 s2 ex e2)))
theorem v93 : ∀ (L : List Lx) (t s t2 s2 : Nat) (ex e2 : Bool), L.length ≤ 9 → (o93 L t s t2 s2 ex e2).news = t93 L ∧ o93 L t s t2 s2 ex e2 = (o93 L t s t2 s2 ex e2).fix
  | [], t, s, t2, s2, ex, e2, _ => ⟨by kernel_rfl, by kernel_rfl⟩
  | [a], t, s, t2, s2, ex, e2, _ => ⟨by kernel_rfl, by kernel_rfl⟩
  | [a, b], t, s, t2, s2, ex, e2, _ => ⟨by kernel_rfl, by kernel_rfl⟩
  | [a, b, d], t, s, t2, s2, ex, e2, _ => ⟨by kernel_rfl, by kernel_rfl⟩
  | [a, b, d, e], t, s, t2, s2, ex, e2, _ => ⟨by kernel_rfl, by kernel_rfl⟩
  | [a, b, d, e, f], t, s, t2, s2, ex, e2, _ => ⟨by kernel_rfl, by kernel_rfl⟩
  | [a, b, d, e, f, h], t, s, t2, s2, ex, e2, _ => ⟨by kernel_rfl, by kernel_rfl⟩
  | [a, b, d, e, f, h, j], t, s, t2, s2, ex, e2, _ => ⟨by kernel_rfl, by kernel_rfl⟩
  | [a, b, d, e, f, h, j, k], t, s, t2, s2, ex, e2, _ => ⟨by kernel_rfl, by kernel_rfl⟩
  | [a, b, d, e, f, h, j, k, l], t, s, t2, s2, ex, e2, _ => ⟨by kernel_rfl, by kernel_rfl⟩
  | _ :: _ :: _ :: _ :: _ :: _ :: _ :: _ :: _ :: _ :: L, _, _, _, _, _, _, h => by simp at h
end Go.Proofs.YtdnogbdfiahcaaaGreat.Ways
noncomputable section
namespace Go.Proofs.YtdnogbdfiahcaaaGreat.Ways
open Go Go.Ex Go.RowKit
/-! ### the contracts of the checks -/
def cvl (n0 : Nat) (e : Int) : List Lx → Int
  | [] => e
  | x :: r => if 1024 < x.n then 5 else if x.n ≠ n0 then 2 else cvl n0 e r
def cvE (m : Int) : List Lx → Int
  | [] => 12
  | x :: r => if 8 < r.length + 1 then 5 else cvl x.n (rgE m 1 (r.length + 1)) (x :: r)
theorem t21l_sel (n0 : Nat) (e : Int) : ∀ L : List Lx, (t21l n0 (le e) L).sel = some (1000000, .old (i (cvl n0 e L)))
  | [] => rfl
  | x :: r => by
    unfold t21l cvl
    simp only [NT.sel, ltF_eq, eqF_d]
    by_cases h : 1024 < x.n
    · rw [if_pos h, decide_eq_true (by omega)]; rfl
    · rw [if_neg h, decide_eq_false (show ¬ (1024 : Int) < x.n by omega)]
      by_cases h2 : x.n = n0
      · rw [if_neg (by simpa using h2), decide_eq_true (by omega)]
        exact t21l_sel n0 e r
      · rw [if_pos h2, decide_eq_false (by omega)]; rfl
theorem t21_sel (m : Int) : ∀ L : List Lx, (t21 m L).sel = some (1000000, .old (i (cvE m L)))
  | [] => rfl
  | x :: r => by
    show (cond (Nat.blt 8 (r.length + 1)) (le 5) (t21l x.n (le (rgE m 1 (r.length + 1))) (x :: r))).sel = some (1000000, .old (i (if 8 < r.length + 1 then 5 else cvl x.n (rgE m 1 (r.length + 1)) (x :: r))))
    by_cases h : 8 < r.length + 1
    · rw [if_pos h, show Nat.blt 8 (r.length + 1) = true from by rw [blt_eq]; exact decide_eq_true h]; rfl
    · rw [if_neg h, show Nat.blt 8 (r.length + 1) = false from by rw [blt_eq]; exact decide_eq_false h]
      exact t21l_sel _ _ (x :: r)
def evl (n0 : Nat) : List Lx → Int
  | [] => 0
  | x :: r => if eL x.n n0 ≠ 0 then eL x.n n0 else evl n0 r
def evE : List Lx → Int
  | [] => 0
  | x :: r => evl x.n (x :: r)
theorem t93l_sel (n0 : Nat) : ∀ L : List Lx, okL L → (t93l n0 L).sel = some (1000000, .old (i (evl n0 L)))
  | [], _ => rfl
  | x :: r, hL => by
    unfold t93l evl
    simp only [NT.sel, eqF_d]
    rw [tru_iff.2 (hL x (by simp)).1, tru_iff.2 (okI2 _ _)]
    by_cases h : eL x.n n0 = 0
    · rw [if_neg (by simpa using h), decide_eq_true h]
      exact t93l_sel n0 r fun y hy => hL y (by simp [hy])
    · rw [if_pos h, decide_eq_false h]; rfl
theorem t93_sel : ∀ L : List Lx, okL L → (t93 L).sel = some (1000000, .old (i (evE L)))
  | [], _ => rfl
  | x :: r, hL => t93l_sel _ (x :: r) hL
/-- how long at most -/
def lenB (k c : Nat) (L : List Lx) : Bool := Nat.ble L.length 9 && (Nat.beq k L.length && Nat.beq c L.length)
theorem lenB_spec {k c : Nat} {L : List Lx} (h : lenB k c L = true) : L.length ≤ 9 ∧ k = L.length ∧ c = L.length := by
  unfold lenB at h
  simp only [Bool.and_eq_true] at h
  exact ⟨Nat.le_of_ble_eq_true h.1, Nat.eq_of_beq_eq_true h.2.1, Nat.eq_of_beq_eq_true h.2.2⟩
def ifB (b : Bool) (r : Prop × NRes) : Option (Prop × NRes) := cond b (some r) none
theorem ifB_some {b : Bool} {r : Prop × NRes} {p : Prop} {v : NRes} (h : ifB b r = some (p, v)) : b = true ∧ r = (p, v) := by
  unfold ifB at h
  cases b with
  | true => cases h; exact ⟨rfl, rfl⟩
  | false => cases h
def sp21 : XSpec := fun al os => match al, os with
  | [.slice (some ⟨1, 0, none⟩) k c, .int .i64 m], .cells vs _ _ _ :: q => match mkL 2 vs q with
    | some L => ifB (lenB k c L) (okL L, .old (i (cvE m L)))
    | none => none
  | _, _ => none
theorem c21 : ∀ al os p v, sp21 al os = some (p, v) → p → (∀ o ∈ os.drop 1, FlatO o) ∧ v.OkX Tryz.prog 21 al deads os (gl + os.length) := by
  intro al os p v hs hp
  unfold sp21 at hs
  split at hs
  case h_2 => cases hs
  rename_i k c m vs t s ex q
  split at hs
  case h_2 => cases hs
  rename_i L hm
  obtain ⟨hb, hr⟩ := ifB_some hs
  cases hr
  obtain ⟨h9, rfl, rfl⟩ := lenB_spec hb
  obtain ⟨rfl, rfl⟩ := mkL_eq _ _ _ _ hm
  refine ⟨okL_flat hp, ?_⟩
  obtain ⟨h1, h2⟩ := v21 L t s ex m h9
  exact (news_ok (C := CK1) (n := 60) (os := hpL2 L t s ex) (b := 1000000) ts9 .none h2 ((congrArg NT.sel h1).trans (t21_sel m L)) (by
    have : (hpL2 L t s ex).length = L.length + 1 := by simp [hpL2, blksN]
    rw [this]; show 1 + _ ≤ _; omega) (show NRes.Fl (.old (i (cvE m L))) from rfl)).x
def rd2 : RdB := fun args H =>
  match args with
  | [.slice (some ⟨b, _, none⟩) _ _, .func _ _ cl] => match cl.toList with
    | [.pointer (some ⟨b2, _, none⟩)] => match H[b]? with
      | some (.cells cs _ _ _) => some ([b, b2], cs.map slBlk)
      | _ => none
    | _ => none
  | _ => none
def sp93x : XSpec := fun al os => match al, os with
  | [.slice (some ⟨1, 0, none⟩) k c, .func (.func 94) a cl], .cells vs _ _ _ :: .cells [.slice (some ⟨1, 0, none⟩) k2 c2] _ _ _ :: q => match a.toList, cl.toList with
    | [], [.pointer (some ⟨2, 0, none⟩)] => match mkL 3 vs q with
      | some L => ifB (lenB k c L && lenB k2 c2 L) (okL L, .old (i (evE L)))
      | none => none
    | _, _ => none
  | _, _ => none
theorem okL_flat2 {L : List Lx} {o o1 : CO} (h : okL L) : ∀ o' ∈ (o :: o1 :: blksN L).drop 2, FlatO o' := by
  intro o' ho
  rw [List.drop_succ_cons, List.drop_succ_cons, List.drop_zero] at ho
  obtain ⟨x, hx, rfl⟩ := List.mem_map.1 ho
  exact fun y hy => List.all_eq_true.1 (h x hx).1 y hy
theorem arr_of {a : Array Value} {l : List Value} (h : a.toList = l) : a = ⟨l⟩ := by cases a; cases h; rfl
theorem c93 : ∀ al os p v, sp93x al os = some (p, v) → p → (∀ o ∈ os.drop 2, FlatO o) ∧ v.OkX Tryz.prog 93 al deads os (gl + os.length) := by
  intro al os p v hs hp
  unfold sp93x at hs
  split at hs
  case h_2 => cases hs
  rename_i k c a cl vs t s ex k2 c2 t2 s2 e2 q
  split at hs
  case h_2 => cases hs
  rename_i ha hcl
  have ea := arr_of ha
  have ec := arr_of hcl
  subst ea
  subst ec
  split at hs
  case h_2 => cases hs
  rename_i L hm
  obtain ⟨hb, hr⟩ := ifB_some hs
  cases hr
  rw [Bool.and_eq_true] at hb
  obtain ⟨h9, rfl, rfl⟩ := lenB_spec hb.1
  obtain ⟨_, rfl, rfl⟩ := lenB_spec hb.2
  obtain ⟨rfl, rfl⟩ := mkL_eq _ _ _ _ hm
  refine ⟨okL_flat2 hp, ?_⟩
  obtain ⟨h1, h2⟩ := v93 L t s t2 s2 ex e2 h9
  exact (news_ok (C := CK1) (n := 60) (os := hp93 L t s t2 s2 ex e2) (b := 1000000) ts9 .none h2 ((congrArg NT.sel h1).trans (t93_sel L hp)) (by
    have : (hp93 L t s t2 s2 ex e2).length = L.length + 2 := by simp [hp93, blksN]
    rw [this]; show 1 + _ ≤ _; omega) (show NRes.Fl (.old (i (evE L))) from rfl)).x
noncomputable def T11 : Tb := ext (ext T9 21 (xE 1 rd1 sp21 [] (heapL deads))) 93 (xE 2 rd2 sp93x [] (heapL deads))
theorem ts11 {G : Nat} : TSound Tryz.prog G T11 := (ts9.x c21).x c93
end Go.Proofs.YtdnogbdfiahcaaaGreat.Ways
noncomputable section
namespace Go.Proofs.YtdnogbdfiahcaaaGreat.Ways
open Go Go.Ex Go.RowKit
/-! ### the program's checkLists -/
def em (k : Nat) : Int := if k = 0 then 12 else 0
def flE (k : Nat) : Int := fst2 (em k) (mnE k 8)
noncomputable def CK3 : Cfg := ⟨T11, spK, off_, noL⟩
noncomputable def o54 (L : List Lx) (t s : Nat) (ex : Bool) : Out QRes := execO Tryz.prog (gl + (hpL2 L t s ex).length) CK3 60 (.call 54 ⟨[sl 1 0 L.length L.length]⟩ (heapL (deads ++ hpL2 L t s ex)))
noncomputable def t54 (L : List Lx) : NT := .br (tru (okI [i (em L.length), i (mnE L.length 8)] 2 2)) (.br (tru (okL L)) (.br (tru (okI [i (flE L.length), i (evE L)] 2 2)) (le (fst2 (flE L.length) (evE L))) .fail) .fail) .fail
theorem v54 : ∀ (L : List Lx) (t s : Nat) (ex : Bool), L.length ≤ 9 → (o54 L t s ex).news = t54 L ∧ o54 L t s ex = (o54 L t s ex).fix
  | [], t, s, ex, _ => ⟨by kernel_rfl, by kernel_rfl⟩
  | [a], t, s, ex, _ => ⟨by kernel_rfl, by kernel_rfl⟩
  | [a, b], t, s, ex, _ => ⟨by kernel_rfl, by kernel_rfl⟩
  | [a, b, d], t, s, ex, _ => ⟨by kernel_rfl, by kernel_rfl⟩
  | [a, b, d, e], t, s, ex, _ => ⟨by kernel_rfl, by kernel_rfl⟩
  | [a, b, d, e, f], t, s, ex, _ => ⟨by kernel_rfl, by kernel_rfl⟩
  | [a, b, d, e, f, h], t, s, ex, _ => ⟨by kernel_rfl, by kernel_rfl⟩
  | [a, b, d, e, f, h, j], t, s, ex, _ => ⟨by kernel_rfl, by kernel_rfl⟩
  | [a, b, d, e, f, h, j, k], t, s, ex, _ => ⟨by kernel_rfl, by kernel_rfl⟩
  | [a, b, d, e, f, h, j, k, l], t, s, ex, _ => ⟨by kernel_rfl, by kernel_rfl⟩
  | _ :: _ :: _ :: _ :: _ :: _ :: _ :: _ :: _ :: _ :: L, _, _, _, h => by simp at h
def clE (L : List Lx) : Int := fst2 (flE L.length) (evE L)
theorem t54_sel {L : List Lx} (h : okL L) : (t54 L).sel = some (1000000, .old (i (clE L))) := by
  unfold t54
  simp only [NT.sel]
  rw [tru_iff.2 (okI2 _ _), tru_iff.2 h, tru_iff.2 (okI2 _ _)]; rfl
def sp54 : XSpec := fun al os => match al, os with
  | [.slice (some ⟨1, 0, none⟩) k c], .cells vs _ _ _ :: q => match mkL 2 vs q with
    | some L => ifB (lenB k c L) (okL L, .old (i (clE L)))
    | none => none
  | _, _ => none
theorem c54 : ∀ al os p v, sp54 al os = some (p, v) → p → (∀ o ∈ os.drop 1, FlatO o) ∧ v.OkX Tryz.prog 54 al deads os (gl + os.length) := by
  intro al os p v hs hp
  unfold sp54 at hs
  split at hs
  case h_2 => cases hs
  rename_i k c vs t s ex q
  split at hs
  case h_2 => cases hs
  rename_i L hm
  obtain ⟨hb, hr⟩ := ifB_some hs
  cases hr
  obtain ⟨h9, rfl, rfl⟩ := lenB_spec hb
  obtain ⟨rfl, rfl⟩ := mkL_eq _ _ _ _ hm
  refine ⟨okL_flat hp, ?_⟩
  obtain ⟨h1, h2⟩ := v54 L t s ex h9
  exact (news_ok (C := CK3) (n := 60) (os := hpL2 L t s ex) (b := 1000000) ts11 .none h2 ((congrArg NT.sel h1).trans (t54_sel hp)) (by
    have : (hpL2 L t s ex).length = L.length + 1 := by simp [hpL2, blksN]
    rw [this]; show 1 + _ ≤ _; omega) (show NRes.Fl (.old (i (clE L))) from rfl)).x
noncomputable def T12 : Tb := ext T11 54 (xE 1 rd1 sp54 [] (heapL deads))
theorem ts12 {G : Nat} : TSound Tryz.prog G T12 := ts11.x c54
end Go.Proofs.YtdnogbdfiahcaaaGreat.Ways
noncomputable section
namespace Go.Proofs.YtdnogbdfiahcaaaGreat.Ways
open Go Go.Ex Go.RowKit
/-! ### the program's Vote: the loop -/
noncomputable def B18 : Code := bodyL Tryz.f18 6
noncomputable def spV : Nat → Nat → Split := at_ [(18, 18), (18, 28)] .bool no_
noncomputable def syV : Nat → Nat → Bool := on_ [(18, 24), (18, 38), (18, 100038), (56, 6), (56, 7)]
noncomputable def CV : Cfg := ⟨T12, spV, syV, noL⟩
def hpV (L : List Lx) (t s : Nat) (ex : Bool) (out : List Value) : List (CO × Bool) := (.dead, false) :: (.cells (cellsN 2 L) t s ex, false) :: ((L.map fun x => (x.blk, true)) ++ [(.dead, false), (.cells out 4 1 true, true)])
def SV (L : List Lx) (t s : Nat) (ex : Bool) (m : Int) (n : Nat) : Shape (Int × List Value) := ⟨41, fun q => ⟨[(0, sl 1 0 L.length L.length), (1, i m), (7, sl (L.length + 3) 0 n n), (26, i n), (27, i q.1)], hpV L t s ex q.2⟩, fun _ q => (.exit 0, ⟨[(7, sl (L.length + 3) 0 n n)], hpV L t s ex q.2⟩)⟩
def asksV {σ : Type} (j : Int) (K : SS σ) : List Lx → SS σ
  | [] => K
  | x :: r => askS (bnd_ j x.n x.c) (askS (cb x.cs j) (asksV j K r))
def rowV (L : List Lx) (j : Int) : List Value := L.map fun x => b_ (bO x.cs j.toNat)
def cntV (L : List Lx) (j : Int) : Int := ((cntB (rowV L j) 0 L.length : Nat) : Int)
noncomputable def nxV (L : List Lx) (m : Int) (n : Nat) (q : Int × List Value) : SS (Int × List Value) := askS (tru (okF (rowV L q.1) 0 L.length L.length)) <| askS (bnd_ q.1 n n) <| askS (decide (0 + q.1.toNat * 1 < q.2.length) && true) <|
  .next (L.length + 6) (List.range (L.length + 4)) (wrapF .i64 (q.1 + 1), q.2.set (0 + q.1.toNat * 1) (b_ (leF m (cntV L q.1))))
noncomputable def stV (L : List Lx) (m : Int) (n : Nat) (q : Int × List Value) : SS (Int × List Value) := .br (ltF q.1 n) (asksV q.1 (nxV L m n q) L) (.done (L.length + 4) (List.range (L.length + 4)) 0)
noncomputable def oV (L : List Lx) (t s : Nat) (ex : Bool) (m : Int) (n : Nat) (q : Int × List Value) (ro : Option Nat) : Out QRes := execO Tryz.prog (gl + (hpL2 L t s ex).length) CV 60 (.code 18 B18 ro (((SV L t s ex m n).st q).tm (SV L t s ex m n).N) ((SV L t s ex m n).st q).heap [])
theorem fxV : ∀ (L : List Lx) (t s : Nat) (ex : Bool) (m : Int) (n : Nat) (q : Int × List Value) (ro : Option Nat), 1 ≤ L.length → L.length ≤ 8 → oV L t s ex m n q ro = (oV L t s ex m n q ro).fix
  | [], _, _, _, _, _, _, _, h, _ => by simp at h
  | [a], t, s, ex, m, n, q, ro, _, _ => by kernel_rfl
  | [a, b], t, s, ex, m, n, q, ro, _, _ => by kernel_rfl
  | [a, b, d], t, s, ex, m, n, q, ro, _, _ => by kernel_rfl
  | [a, b, d, e], t, s, ex, m, n, q, ro, _, _ => by kernel_rfl
  | [a, b, d, e, f], t, s, ex, m, n, q, ro, _, _ => by kernel_rfl
  | [a, b, d, e, f, h], t, s, ex, m, n, q, ro, _, _ => by kernel_rfl
  | [a, b, d, e, f, h, j], t, s, ex, m, n, q, ro, _, _ => by kernel_rfl
  | [a, b, d, e, f, h, j, k], t, s, ex, m, n, q, ro, _, _ => by kernel_rfl
  | _ :: _ :: _ :: _ :: _ :: _ :: _ :: _ :: _ :: L, _, _, _, _, _, _, _, _, h => by simp at h
theorem vwV : ∀ (L : List Lx) (t s : Nat) (ex : Bool) (m : Int) (n : Nat) (q : Int × List Value) (ro : Option Nat), 1 ≤ L.length → L.length ≤ 8 → (oV L t s ex m n q ro).view (SV L t s ex m n) q (stV L m n q) = (stV L m n q).view (SV L t s ex m n) q
  | [], _, _, _, _, _, _, _, h, _ => by simp at h
  | [a], t, s, ex, m, n, q, ro, _, _ => by kernel_rfl
  | [a, b], t, s, ex, m, n, q, ro, _, _ => by kernel_rfl
  | [a, b, d], t, s, ex, m, n, q, ro, _, _ => by kernel_rfl
  | [a, b, d, e], t, s, ex, m, n, q, ro, _, _ => by kernel_rfl
  | [a, b, d, e, f], t, s, ex, m, n, q, ro, _, _ => by kernel_rfl
  | [a, b, d, e, f, h], t, s, ex, m, n, q, ro, _, _ => by kernel_rfl
  | [a, b, d, e, f, h, j], t, s, ex, m, n, q, ro, _, _ => by kernel_rfl
  | [a, b, d, e, f, h, j, k], t, s, ex, m, n, q, ro, _, _ => by kernel_rfl
  | _ :: _ :: _ :: _ :: _ :: _ :: _ :: _ :: _ :: L, _, _, _, _, _, _, _, _, h => by simp at h
theorem gdV : ∀ (L : List Lx) (t s : Nat) (ex : Bool) (m : Int) (n : Nat) (q : Int × List Value), 1 ≤ L.length → L.length ≤ 8 → (stV L m n q).good (SV L t s ex m n) q (L.length + 4) = true
  | [], _, _, _, _, _, _, h, _ => by simp at h
  | [a], t, s, ex, m, n, q, _, _ => by kernel_rfl
  | [a, b], t, s, ex, m, n, q, _, _ => by kernel_rfl
  | [a, b, d], t, s, ex, m, n, q, _, _ => by kernel_rfl
  | [a, b, d, e], t, s, ex, m, n, q, _, _ => by kernel_rfl
  | [a, b, d, e, f], t, s, ex, m, n, q, _, _ => by kernel_rfl
  | [a, b, d, e, f, h], t, s, ex, m, n, q, _, _ => by kernel_rfl
  | [a, b, d, e, f, h, j], t, s, ex, m, n, q, _, _ => by kernel_rfl
  | [a, b, d, e, f, h, j, k], t, s, ex, m, n, q, _, _ => by kernel_rfl
  | _ :: _ :: _ :: _ :: _ :: _ :: _ :: _ :: _ :: L, _, _, _, _, _, _, _, h => by simp at h
theorem hpV_flat {L : List Lx} {t s : Nat} {ex : Bool} {out : List Value} (h : okL L) (h2 : out.all Ex.flat = true) : ∀ o, (o, true) ∈ hpV L t s ex out → FlatO o := by
  intro o ho
  simp only [hpV, List.mem_cons, List.mem_append, List.mem_map, Prod.mk.injEq, Bool.true_eq_false, and_false, List.not_mem_nil, or_false, false_or] at ho
  rcases ho with ⟨x, hx, rfl, _⟩ | ⟨rfl, _⟩
  · exact fun y hy => List.all_eq_true.1 (h x hx).1 y hy
  · exact fun y hy => List.all_eq_true.1 h2 y hy
theorem asksV_or {σ : Type} {j : Int} {K : SS σ} {r : σ ⊕ Nat} : ∀ {L : List Lx}, (asksV j K L).sel = some r → K.sel = some r
  | [], h => h
  | _x :: l, h => asksV_or (L := l) (ask_or' (ask_or' h))
theorem goodV {L : List Lx} {m : Int} {n : Nat} : ∀ q q', Gd2 q → (stV L m n q).sel = some (.inl q') → Gd2 q' := by
  intro q q' hg h
  rcases br_or' h with h | h
  · have h := ask_or' (ask_or' (ask_or' (asksV_or h)))
    cases h
    exact all_set hg rfl
  · cases h
theorem LV {L : List Lx} {t s : Nat} {ex : Bool} {m : Int} {n : Nat} (h : okL L) (h1 : 1 ≤ L.length) (h8 : L.length ≤ 8) : Loop1 Tryz.prog (gl + (hpL2 L t s ex).length) 18 B18 (SV L t s ex m n) (L.length + 4) (stV L m n) Gd2 :=
  .mk' (C := fun _ => CV) (n := 60) (fun _ _ => ts12) (fun _ _ => .none) (fun q ro _ => fxV L t s ex m n q ro h1 h8) (fun q ro _ => vwV L t s ex m n q ro h1 h8) (fun q => gdV L t s ex m n q h1 h8) goodV
    (fun q hq => hpV_flat h hq) (fun q j hq _ => ⟨hpV_flat h hq, fun h => by cases h⟩)
end Go.Proofs.YtdnogbdfiahcaaaGreat.Ways
noncomputable section
namespace Go.Proofs.YtdnogbdfiahcaaaGreat.Ways
open Go Go.Ex Go.RowKit
/-! ### the reference's Vote: the loop -/
noncomputable def B24 : Code := bodyL Tryz.f24 3
noncomputable def spW : Nat → Nat → Split := at_ [(24, 14), (24, 29)] .bool no_
noncomputable def syWz : Nat → Nat → Bool := on_ [(24, 28), (24, 29)]
noncomputable def syW : Nat → Nat → Bool := on_ [(24, 28), (24, 29), (24, 37), (24, 300037)]
noncomputable def CW : PS → Cfg
  | .z => ⟨T12, spW, syWz, noL⟩
  | .m _ _ _ => ⟨T12, spW, syW, noL⟩
def hpWz (L : List Lx) (t s : Nat) (ex : Bool) : List (CO × Bool) := (.dead, false) :: (.cells (cellsN 2 L) t s ex, false) :: (L.map fun x => (x.blk, true))
def hpWm (L : List Lx) (t s : Nat) (ex : Bool) (out : List Value) : List (CO × Bool) := (.dead, false) :: (.cells (cellsN 2 L) t s ex, false) :: ((L.map fun x => (x.blk, true)) ++ [(.cells out 4 1 false, true)])
def SW (L : List Lx) (t s : Nat) (ex : Bool) (m : Int) : Shape PS := ⟨39, fun q => match q with
  | .z => ⟨[(0, sl 1 0 L.length L.length), (1, i m), (5, .slice none 0 0), (6, i 0)], hpWz L t s ex⟩
  | .m j l out => ⟨[(0, sl 1 0 L.length L.length), (1, i m), (5, sl (L.length + 2) 0 l l), (6, i j)], hpWm L t s ex out⟩,
  fun _ q => match q with
  | .z => (.exit 0, ⟨[(5, .slice none 0 0)], hpWz L t s ex⟩)
  | .m _ l out => (.exit 0, ⟨[(5, sl (L.length + 2) 0 l l)], hpWm L t s ex out⟩)⟩
def asksW {σ : Type} (j : Int) (K : Int → SS σ) : List Lx → Int → SS σ
  | [], cnt => K cnt
  | x :: r, cnt => askS (bnd_ j x.n x.c) (askS (cb x.cs j) (.br (bO x.cs j.toNat) (asksW j K r (wrapF .i64 (cnt + 1))) (asksW j K r cnt)))
def n0 : List Lx → Nat
  | [] => 0
  | x :: _ => x.n
def nWz (L : List Lx) (m : Int) (cnt : Int) : SS PS := .next (L.length + 4) (List.range (L.length + 2) ++ [L.length + 3]) (.m 1 1 [b_ (leF m cnt)])
def nWm (L : List Lx) (m : Int) (j : Int) (l : Nat) (out : List Value) (cnt : Int) : SS PS := askS (full l out) (.next (L.length + 5) (List.range (L.length + 2) ++ [L.length + 4]) (.m (wrapF .i64 (j + 1)) (l + 1) (out ++ [b_ (leF m cnt)])))
def stW (L : List Lx) (m : Int) : PS → SS PS
  | .z => .br (ltF 0 (n0 L)) (asksW 0 (nWz L m) L 0) (.done (L.length + 2) (List.range (L.length + 2)) 0)
  | .m j l out => .br (ltF j (n0 L)) (asksW j (nWm L m j l out) L 0) (.done (L.length + 3) (List.range (L.length + 3)) 0)
noncomputable def oW (L : List Lx) (t s : Nat) (ex : Bool) (m : Int) (q : PS) (ro : Option Nat) : Out QRes := execO Tryz.prog (gl + (hpL2 L t s ex).length) (CW q) 60 (.code 24 B24 ro (((SW L t s ex m).st q).tm (SW L t s ex m).N) ((SW L t s ex m).st q).heap [])
end Go.Proofs.YtdnogbdfiahcaaaGreat.Ways
