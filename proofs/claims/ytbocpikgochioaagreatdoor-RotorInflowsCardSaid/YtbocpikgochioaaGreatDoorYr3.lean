import Derived.Test.YtbocpikgochioaaGreatDoorYr2
namespace Go.Proofs.YtbocpikgochioaaGreatDoor.Ways
open Go Go.Ex
/-! ### the functions of a ring, as contracts -/
/-- what else comes in: the flow, the ring, two numbers -/
structure ArA where
  b : BlA
  w : Int
  s : Int
  q : Int
  ring : Int
  x : Int
  d : Int
def rdAI : List Value → Option (List Nat × ArA)
  | [v, .agg ⟨[.int .i64 w, .int .i64 s, .int .i64 q]⟩, .int .i64 ring, .agg ⟨[.int .i64 x, .int .i64 d]⟩] => match rdB v with
    | some y => some (y.1, ⟨y.2, w, s, q, ring, x, d⟩)
    | none => none
  | _ => none
def rdAX : List Value → Option (List Nat × ArA)
  | [v, .agg ⟨[.int .i64 w, .int .i64 s, .int .i64 q]⟩, .int .i64 ring, .int .i64 x] => match rdB v with
    | some y => some (y.1, ⟨y.2, w, s, q, ring, x, 0⟩)
    | none => none
  | _ => none
def rdAR : List Value → Option (List Nat × ArA)
  | [v, .agg ⟨[.int .i64 w, .int .i64 s, .int .i64 q]⟩, .int .i64 ring] => match rdB v with
    | some y => some (y.1, ⟨y.2, w, s, q, ring, 0, 0⟩)
    | none => none
  | _ => none
def ArA.valsI (a : ArA) : List Value := [a.b.val, flV a.w a.s a.q, i a.ring, ag [i a.x, i a.d]]
def ArA.valsX (a : ArA) : List Value := [a.b.val, flV a.w a.s a.q, i a.ring, i a.x]
def ArA.valsR (a : ArA) : List Value := [a.b.val, flV a.w a.s a.q, i a.ring]
theorem rdAI_ok : ∀ args bs a, rdAI args = some (bs, a) → a.valsI.all (renOk (List.range gl ++ bs) 8) = true ∧ args = a.valsI.map (ren (List.range gl ++ bs) 8) := by
  intro args bs a h
  unfold rdAI at h
  split at h
  · split at h
    · rename_i x hx
      cases h
      obtain ⟨h1, h2⟩ := rdB_ok hx
      refine ⟨?_, by rw [h2]; rfl⟩
      show (renOk _ 8 x.2.val && _) = true
      rw [h1]; rfl
    · cases h
  · cases h
theorem rdAX_ok : ∀ args bs a, rdAX args = some (bs, a) → a.valsX.all (renOk (List.range gl ++ bs) 8) = true ∧ args = a.valsX.map (ren (List.range gl ++ bs) 8) := by
  intro args bs a h
  unfold rdAX at h
  split at h
  · split at h
    · rename_i x hx
      cases h
      obtain ⟨h1, h2⟩ := rdB_ok hx
      refine ⟨?_, by rw [h2]; rfl⟩
      show (renOk _ 8 x.2.val && _) = true
      rw [h1]; rfl
    · cases h
  · cases h
theorem rdAR_ok : ∀ args bs a, rdAR args = some (bs, a) → a.valsR.all (renOk (List.range gl ++ bs) 8) = true ∧ args = a.valsR.map (ren (List.range gl ++ bs) 8) := by
  intro args bs a h
  unfold rdAR at h
  split at h
  · split at h
    · rename_i x hx
      cases h
      obtain ⟨h1, h2⟩ := rdB_ok hx
      refine ⟨?_, by rw [h2]; rfl⟩
      show (renOk _ 8 x.2.val && _) = true
      rw [h1]; rfl
    · cases h
  · cases h
def okP (a : ArA) (css : List (List Value)) : Prop := okB a.b css ∧ (a.b.nil = false → a.b.n ≠ 0)
def rhoC : List (List Value) → Nat → Int
  | [_, _, cs3] => rhoE cs3
  | _ => rhoE []
def csA : List (List Value) → List Value
  | c :: _ => c
  | [] => []
def sE_ (a : ArA) (css : List (List Value)) : Int := secE (errB a.b css) (flowE a.w a.s a.q) a.ring a.b.n
def clsR (a : ArA) (css : List (List Value)) : Value := resN (firstE (sE_ a css) (rangeE a.x 0 999999999)) (clE (wrapF .i64 (a.x - wrapF .i64 (rhoC css (4 * a.ring.toNat + 2) + a.q))) a.b.n1)
def infR (a : ArA) (css : List (List Value)) : Value := resN (firstE (sE_ a css) (indE a.x a.d)) (infE (rhoC css (4 * a.ring.toNat)) a.w a.s a.x a.d)
def balF (a : ArA) (css : List (List Value)) : Int := balV (scA (rhoC css) a.w a.s a.q a.b.n1 a.b.c1 a.b.n2 a.b.c2 a.ring.toNat, a.x, a.d) [csA css, csA css]
def balR (a : ArA) (css : List (List Value)) : Value := resN (firstE (sE_ a css) (indE a.x a.d)) (balF a css)
theorem f13_small : ∀ a css os, okP a css → Blks css os → ∃ H', Sound Tryz.prog (gl + css.length) (.call Fn.rotor_Class ⟨a.valsX⟩ (heapL (deads ++ os))) (.val (clsR a css) H') := by
  intro a css os h hb
  obtain ⟨⟨n1, c1, n2, c2, n, c, nl⟩, w, s, q, ring, x, d⟩ := a
  obtain ⟨h, hne⟩ := h
  dsimp only at h hne
  unfold okB at h
  split at h
  · rename_i cs1 cs2 cs3
    dsimp only at h
    obtain ⟨rfl, ⟨h1, h2⟩, h5, rfl, h3⟩ := h
    obtain ⟨t1, s1, e1, t2, s2, e2, t3, s3, e3, rfl⟩ := blks3 hb
    rcases h5 with rfl | rfl | rfl | rfl | rfl
    · exact absurd rfl (hne rfl)
    · have := f13_1 (t1 := t1) (s1 := s1) (e1 := e1) (t2 := t2) (s2 := s2) (e2 := e2) (t3 := t3) (s3 := s3) (e3 := e3) (w := w) (s := s) (q := q) (ring := ring) (ρ := rhoE cs3) h1 h2 x
      rw [← h3] at this; exact this
    · have := f13_2 (t1 := t1) (s1 := s1) (e1 := e1) (t2 := t2) (s2 := s2) (e2 := e2) (t3 := t3) (s3 := s3) (e3 := e3) (w := w) (s := s) (q := q) (ring := ring) (ρ := rhoE cs3) h1 h2 x
      rw [← h3] at this; exact this
    · have := f13_3 (t1 := t1) (s1 := s1) (e1 := e1) (t2 := t2) (s2 := s2) (e2 := e2) (t3 := t3) (s3 := s3) (e3 := e3) (w := w) (s := s) (q := q) (ring := ring) (ρ := rhoE cs3) h1 h2 x
      rw [← h3] at this; exact this
    · have := f13_17 (t1 := t1) (s1 := s1) (e1 := e1) (t2 := t2) (s2 := s2) (e2 := e2) (t3 := t3) (s3 := s3) (e3 := e3) (w := w) (s := s) (q := q) (ring := ring) (ρ := rhoE cs3) h1 h2 x
      rw [← h3] at this; exact this
  · dsimp only at h
    obtain ⟨rfl, rfl, h1, h2⟩ := h
    obtain ⟨t1, s1, e1, t2, s2, e2, rfl⟩ := blks2 hb
    exact f13_nil h1 h2 x
  · cases h
theorem f11_small : ∀ a css os, okP a css → Blks css os → ∃ H', Sound Tryz.prog (gl + css.length) (.call Fn.rotor_Inflow ⟨a.valsI⟩ (heapL (deads ++ os))) (.val (infR a css) H') := by
  intro a css os h hb
  obtain ⟨⟨n1, c1, n2, c2, n, c, nl⟩, w, s, q, ring, x, d⟩ := a
  obtain ⟨h, hne⟩ := h
  dsimp only at h hne
  unfold okB at h
  split at h
  · rename_i cs1 cs2 cs3
    dsimp only at h
    obtain ⟨rfl, ⟨h1, h2⟩, h5, rfl, h3⟩ := h
    obtain ⟨t1, s1, e1, t2, s2, e2, t3, s3, e3, rfl⟩ := blks3 hb
    rcases h5 with rfl | rfl | rfl | rfl | rfl
    · exact absurd rfl (hne rfl)
    · have := f11_1 (t1 := t1) (s1 := s1) (e1 := e1) (t2 := t2) (s2 := s2) (e2 := e2) (t3 := t3) (s3 := s3) (e3 := e3) (w := w) (s := s) (q := q) (ring := ring) (ρ := rhoE cs3) h1 h2 x d
      rw [← h3] at this; exact this
    · have := f11_2 (t1 := t1) (s1 := s1) (e1 := e1) (t2 := t2) (s2 := s2) (e2 := e2) (t3 := t3) (s3 := s3) (e3 := e3) (w := w) (s := s) (q := q) (ring := ring) (ρ := rhoE cs3) h1 h2 x d
      rw [← h3] at this; exact this
    · have := f11_3 (t1 := t1) (s1 := s1) (e1 := e1) (t2 := t2) (s2 := s2) (e2 := e2) (t3 := t3) (s3 := s3) (e3 := e3) (w := w) (s := s) (q := q) (ring := ring) (ρ := rhoE cs3) h1 h2 x d
      rw [← h3] at this; exact this
    · have := f11_17 (t1 := t1) (s1 := s1) (e1 := e1) (t2 := t2) (s2 := s2) (e2 := e2) (t3 := t3) (s3 := s3) (e3 := e3) (w := w) (s := s) (q := q) (ring := ring) (ρ := rhoE cs3) h1 h2 x d
      rw [← h3] at this; exact this
  · dsimp only at h
    obtain ⟨rfl, rfl, h1, h2⟩ := h
    obtain ⟨t1, s1, e1, t2, s2, e2, rfl⟩ := blks2 hb
    exact f11_nil h1 h2 x d
  · cases h
theorem f14_small : ∀ a css os, okP a css → Blks css os → ∃ H', Sound Tryz.prog (gl + css.length) (.call Fn.rotor_Balance ⟨a.valsI⟩ (heapL (deads ++ os))) (.val (balR a css) H') := by
  intro a css os h hb
  obtain ⟨⟨n1, c1, n2, c2, n, c, nl⟩, w, s, q, ring, x, d⟩ := a
  obtain ⟨h, hne⟩ := h
  dsimp only at h hne
  unfold okB at h
  split at h
  · rename_i cs1 cs2 cs3
    dsimp only at h
    obtain ⟨rfl, ⟨h1, h2⟩, h5, rfl, h3⟩ := h
    obtain ⟨t1, s1, e1, t2, s2, e2, t3, s3, e3, rfl⟩ := blks3 hb
    rcases h5 with rfl | rfl | rfl | rfl | rfl
    · exact absurd rfl (hne rfl)
    · have := f14_1 (t1 := t1) (s1 := s1) (e1 := e1) (t2 := t2) (s2 := s2) (e2 := e2) (t3 := t3) (s3 := s3) (e3 := e3) (w := w) (s := s) (q := q) (ring := ring) (ρ := rhoE cs3) h1 h2 x d
      rw [← h3] at this; exact this
    · have := f14_2 (t1 := t1) (s1 := s1) (e1 := e1) (t2 := t2) (s2 := s2) (e2 := e2) (t3 := t3) (s3 := s3) (e3 := e3) (w := w) (s := s) (q := q) (ring := ring) (ρ := rhoE cs3) h1 h2 x d
      rw [← h3] at this; exact this
    · have := f14_3 (t1 := t1) (s1 := s1) (e1 := e1) (t2 := t2) (s2 := s2) (e2 := e2) (t3 := t3) (s3 := s3) (e3 := e3) (w := w) (s := s) (q := q) (ring := ring) (ρ := rhoE cs3) h1 h2 x d
      rw [← h3] at this; exact this
    · have := f14_17 (t1 := t1) (s1 := s1) (e1 := e1) (t2 := t2) (s2 := s2) (e2 := e2) (t3 := t3) (s3 := s3) (e3 := e3) (w := w) (s := s) (q := q) (ring := ring) (ρ := rhoE cs3) h1 h2 x d
      rw [← h3] at this; exact this
  · dsimp only at h
    obtain ⟨rfl, rfl, h1, h2⟩ := h
    obtain ⟨t1, s1, e1, t2, s2, e2, rfl⟩ := blks2 hb
    exact f14_nil h1 h2 x d
  · cases h
theorem f15_small : ∀ a css os, okB3 a.b css → Blks css os → ∃ H', Sound Tryz.prog (gl + css.length) (.call Fn.ref03_CheckRing ⟨a.valsR⟩ (heapL (deads ++ os))) (.val (i (sE_ a css)) H') := by
  intro a css os h hb
  obtain ⟨⟨n1, c1, n2, c2, n, c, nl⟩, w, s, q, ring, x, d⟩ := a
  have h0 := h
  unfold okB3 at h
  split at h
  case h_2 => cases h
  rename_i cs1 cs2 cs3
  dsimp only at h h0
  obtain ⟨rfl, ⟨h1, h2⟩, h5, h6, h3⟩ := h
  obtain ⟨t1, s1, e1, t2, s2, e2, t3, s3, e3, rfl⟩ := blks3 hb
  refine one_tree (C := CG) (n := 40) (askB (tru (okB3 ⟨n1, c1, n2, c2, n, c, false⟩ [cs1, cs2, cs3])) (askFst [bladeE cs1 n1 cs2 n2 (rhoE cs3) n, flowE w s q] fun e => .br (!eqF e 0) (.leaf (i e)) (.br (ltF ring 0) (.leaf (i 10)) (.br (leF n ring) (.leaf (i 10)) (.leaf (i 0)))))) tsG .none (by kernel_rfl) (by kernel_rfl) ?_
  rw [askB_sel (tru_iff.2 h0), askFst_sel (by simp), firstL2, eqF_d, brN, ltF_eq, leF_d, brD, brD]
  show _ = some (i (secE (bladeE cs1 n1 cs2 n2 (rhoE cs3) n) (flowE w s q) ring n))
  unfold secE
  by_cases g : firstE (bladeE cs1 n1 cs2 n2 (rhoE cs3) n) (flowE w s q) = 0
  · rw [if_pos g, if_pos g]
    by_cases g1 : ring < 0
    · rw [if_pos g1, if_neg (by omega)]; rfl
    · rw [if_neg g1]
      by_cases g2 : (n : Int) ≤ ring
      · rw [if_pos g2, if_neg (by omega)]; rfl
      · rw [if_neg g2, if_pos (by omega)]; rfl
  · rw [if_neg g, if_neg g]; rfl
theorem okP_flat : ∀ a css, okP a css → ∀ cs ∈ css, cs.all Ex.flat = true := fun a css h => okB_flat a.b css h.1
noncomputable def TM1 : Tb := ext (ext (ext (ext (ext TF Fn.law03_blade cpE) Fn.rotor_Class (rdE rdAX okP clsR [] (heapL deads))) Fn.rotor_Inflow (rdE rdAI okP infR [] (heapL deads))) Fn.rotor_Balance (rdE rdAI okP balR [] (heapL deads))) Fn.ref03_CheckRing (rdE rdAR (fun a css => okB3 a.b css) (fun a css => i (sE_ a css)) [] (heapL deads))
theorem tsM1 {G : Nat} : TSound Tryz.prog G TM1 :=
  ((((tsTF.ext cpE_ok).ext (rd_ok ArA.valsX deads_len deads_flat deads_mem rdAX_ok okP_flat (fun _ _ _ => rfl) f13_small)).ext
    (rd_ok ArA.valsI deads_len deads_flat deads_mem rdAI_ok okP_flat (fun _ _ _ => rfl) f11_small)).ext
    (rd_ok ArA.valsI deads_len deads_flat deads_mem rdAI_ok okP_flat (fun _ _ _ => rfl) f14_small)).ext
    (rd_ok ArA.valsR deads_len deads_flat deads_mem rdAR_ok (fun a css h => okB_flat a.b css (okB3_B a.b css h)) (fun _ _ _ => rfl) f15_small)
end Go.Proofs.YtbocpikgochioaaGreatDoor.Ways
namespace Go.Proofs.YtbocpikgochioaaGreatDoor.Ways
open Go Go.Ex
/-! ### the law -/
def shE (n1 n2 n : Nat) : Bool := decide (((n1 : Int) ≤ 5 ∨ (n1 : Int) = 33) ∧ ((n2 : Int) ≤ 5 ∨ (n2 : Int) = 33) ∧ ((n : Int) ≤ 3 ∨ (n : Int) = 17))
def spS : Nat → Nat → Split := at_ [(Fn.ref03_Short, 7), (Fn.ref03_Short, 13), (Fn.ref03_Short, 20), (Fn.ref03_Short, 26), (Fn.ref03_Short, 33), (Fn.ref03_Short, 38)] .bool no_
noncomputable def CS : Cfg := ⟨TM1, spS, off_, noL⟩
def fl3 : List (List Value) → Prop
  | [cs1, cs2, cs3] => cs1.all Ex.flat = true ∧ cs2.all Ex.flat = true ∧ cs3.all Ex.flat = true
  | _ => False
def shT (n : Nat) : VT := .br (leF n 3) (lf true) (.br (eqF n 17) (lf true) (lf false))
theorem shT_sel (n : Nat) : (shT n).sel = some (b_ (decide ((n : Int) ≤ 3 ∨ (n : Int) = 17))) := by
  unfold shT
  rw [leF_d, eqF_d, brD, brD]
  by_cases h1 : (n : Int) ≤ 3
  · simp only [h1, if_true, true_or, decide_true]; rfl
  · by_cases h2 : (n : Int) = 17
    · simp only [h2, if_true, or_true, decide_true]; simp; rfl
    · simp only [h1, h2, if_false, or_self, decide_false]; rfl
def shT2 (n : Nat) (k : VT) : VT := .br (leF n 5) k (.br (eqF n 33) k (lf false))
theorem shT2_sel (n : Nat) (k : VT) (p : Prop) [Decidable p] (h : k.sel = some (b_ (decide p))) : (shT2 n k).sel = some (b_ (decide (((n : Int) ≤ 5 ∨ (n : Int) = 33) ∧ p))) := by
  unfold shT2
  rw [leF_d, eqF_d, brD, brD, h]
  by_cases h1 : (n : Int) ≤ 5
  · simp only [h1, if_true, true_or, true_and]
  · by_cases h2 : (n : Int) = 33
    · simp only [h2, if_true, or_true, true_and]; simp
    · simp only [h1, h2, if_false, or_self, false_and, decide_false]; rfl
theorem short_small : ∀ (a : BlA) css os, a.nil = false ∧ fl3 css → Blks css os → ∃ H', Sound Tryz.prog (gl + css.length) (.call Fn.ref03_Short ⟨[a.val]⟩ (heapL (deads ++ os))) (.val (b_ (shE a.n1 a.n2 a.n)) H') := by
  intro a css os h hb
  obtain ⟨n1, c1, n2, c2, n, c, nl⟩ := a
  obtain ⟨h0, h⟩ := h
  dsimp only at h0
  subst h0
  unfold fl3 at h
  split at h
  case h_2 => cases h
  obtain ⟨t1, s1, e1, t2, s2, e2, t3, s3, e3, rfl⟩ := blks3 hb
  refine one_tree (C := CS) (n := 40) (shT2 n1 (shT2 n2 (shT n))) tsM1 .none (by kernel_rfl) (by kernel_rfl) ?_
  exact shT2_sel n1 _ _ (shT2_sel n2 _ _ (shT_sel n))
noncomputable def TN : Tb := ext (ext (ext TM1 Fn.ref03_Short (rdE rdBl (fun a css => a.nil = false ∧ fl3 css) (fun a _ => b_ (shE a.n1 a.n2 a.n)) [] (heapL deads))) Fn.law03_number (pureE like1S [] Hd)) Fn.law03_awake (pureE awS [0, 1, 2, 3] Ha)
theorem tsN {G : Nat} : TSound Tryz.prog G TN := by
  refine ((tsM1.ext (rd_ok (fun a => [a.val]) deads_len deads_flat deads_mem rdBl_ok ?_ (fun _ _ _ => rfl) short_small)).pure hd_vars fun args v h => ?_).pure ha_vars fun args v h => ?_
  · intro a css h cs hc
    have h := h.2
    unfold fl3 at h
    split at h
    · simp at hc
      rcases hc with rfl | rfl | rfl
      · exact h.1
      · exact h.2.1
      · exact h.2.2
    · cases h
  · unfold like1S at h
    split at h
    · cases h; exact like1_pure _ _ _ _
    · cases h
  · unfold awS at h
    split at h
    · cases h; exact aw_pure
    · cases h
noncomputable def CN : Cfg := ⟨TN, at_ [(Fn.law03_RotorInflows, 23), (Fn.law03_RotorInflows, 78), (Fn.law03_RotorInflows, 102), (Fn.law03_RotorInflows, 119), (Fn.law03_RotorInflows, 125), (Fn.law03_RotorInflows, 132)] .bool no_, on_ [(Fn.law03_RotorInflows, 83), (Fn.law03_RotorInflows, 84), (Fn.law03_RotorInflows, 95), (Fn.law03_RotorInflows, 96), (Fn.law03_RotorInflows, 109), (Fn.law03_RotorInflows, 110)], noL⟩
noncomputable def hpN (cs1 : List Value) (t1 s1 : Nat) (cs2 : List Value) (t2 s2 : Nat) (cs3 : List Value) (t3 s3 : Nat) : List CO := [.cells powers 180 1 true, .cells pow10 201 1 true, .cells tab32 208 1 true, .cells tab64 209 1 true, .cells cs1 t1 s1 false, .cells cs2 t2 s2 false, .cells cs3 t3 s3 false]
def spV (ring a d x e : Int) : Value := ag [i ring, i a, i d, i x, i e]
end Go.Proofs.YtbocpikgochioaaGreatDoor.Ways
namespace Go.Proofs.YtbocpikgochioaaGreatDoor.Ways
open Go Go.Ex
def k4 : List CK := [.i .i64, .i .i64, .i .i64, .i .i64]
def posF (b : Bool) (k : VT) : VT := .br b k (lf false)
def finT (one two inf cls bal r1 e1 r2 e2 r3 e3 : Int) : VT := posF (like1E r1 e1 one inf) (posF (like1E r2 e2 two cls) (posF (like1E r3 e3 one bal) (lf true)))
def twoT (idx cel ofl : Bool) (one two inf cls bal r1 e1 r2 e2 r3 e3 : Int) : VT := .br (eqF two 0) (askB idx (askB cel (askB ofl (finT one two inf cls bal r1 e1 r2 e2 r3 e3)))) (finT one two inf 0 bal r1 e1 r2 e2 r3 e3)
def oneT (idx cel oRI oRB ofl : Bool) (one two inf cls bal r1 e1 r2 e2 r3 e3 : Int) : VT := .br (eqF one 0) (askB idx (askB cel (askB oRI (askB idx (askB cel (askB oRB (twoT idx cel ofl one two inf cls bal r1 e1 r2 e2 r3 e3))))))) (twoT idx cel ofl one two 0 cls 0 r1 e1 r2 e2 r3 e3)
noncomputable def lawT (okS sh okC ok1 ok2 ok3 okR idx cel oRI oRB ofl : Bool) (bad iE xE inf cls bal r1 e1 r2 e2 r3 e3 : Int) : VT :=
  askB okS (.br sh (askB okC (askB ok1 (askB okC (askB ok2 (askB okC (askB ok3 (askB okR (askFst [bad, iE] fun one => askFst [bad, xE] fun two => oneT idx cel oRI oRB ofl one two inf cls bal r1 e1 r2 e2 r3 e3)))))))) (lf true))
theorem posF_sel {b : Bool} {k : VT} (h : b = true) : (posF b k).sel = k.sel := by rw [h]; rfl
theorem like1_same {e X w : Int} (h : e = 0 → X = w) : like1E (okE e X) e e w = true := by
  unfold like1E okE
  rw [decide_eq_true_eq]
  by_cases he : e = 0
  · rw [if_pos he]; exact ⟨rfl, .inr ⟨he, h he⟩⟩
  · rw [if_neg he]; exact ⟨rfl, .inl ⟨he, rfl⟩⟩
theorem lawT_sel {okS sh okC ok1 ok2 ok3 okR idx cel oRI oRB ofl : Bool} {bad iE xE inf cls bal r1 e1 r2 e2 r3 e3 v1 v2 v3 : Int} (hS : okS = true) (hC : okC = true) (h1 : ok1 = true) (h2 : ok2 = true) (h3 : ok3 = true) (hR : okR = true)
    (hone : firstE bad iE = 0 → idx = true ∧ cel = true ∧ oRI = true ∧ oRB = true) (htwo : firstE bad xE = 0 → idx = true ∧ cel = true ∧ ofl = true)
    (q1 : e1 = firstE bad iE ∧ r1 = okE (firstE bad iE) v1 ∧ (firstE bad iE = 0 → v1 = inf)) (q2 : e2 = firstE bad xE ∧ r2 = okE (firstE bad xE) v2 ∧ (firstE bad xE = 0 → v2 = cls)) (q3 : e3 = firstE bad iE ∧ r3 = okE (firstE bad iE) v3 ∧ (firstE bad iE = 0 → v3 = bal)) :
    (lawT okS sh okC ok1 ok2 ok3 okR idx cel oRI oRB ofl bad iE xE inf cls bal r1 e1 r2 e2 r3 e3).sel = some (b_ true) := by
  unfold lawT
  rw [askB_sel hS]
  cases sh with
  | false => rfl
  | true =>
    show (askB okC (askB ok1 (askB okC (askB ok2 (askB okC (askB ok3 (askB okR (askFst [bad, iE] fun one => askFst [bad, xE] fun two => oneT idx cel oRI oRB ofl one two inf cls bal r1 e1 r2 e2 r3 e3)))))))).sel = _
    rw [askB_sel hC, askB_sel h1, askB_sel hC, askB_sel h2, askB_sel hC, askB_sel h3, askB_sel hR, askFst_sel (by simp), askFst_sel (by simp), firstL2, firstL2]
    obtain ⟨rfl, rfl, p1⟩ := q1
    obtain ⟨rfl, rfl, p2⟩ := q2
    obtain ⟨rfl, rfl, p3⟩ := q3
    generalize firstE bad iE = one at *
    generalize firstE bad xE = two at *
    have fin : ∀ {inf' cls' bal' : Int}, (one = 0 → inf' = inf ∧ bal' = bal) → (two = 0 → cls' = cls) → (finT one two inf' cls' bal' (okE one v1) one (okE two v2) two (okE one v3) one).sel = some (b_ true) := by
      intro inf' cls' bal' k1 k2
      unfold finT
      rw [posF_sel (like1_same fun h => (p1 h).trans (k1 h).1.symm), posF_sel (like1_same fun h => (p2 h).trans (k2 h).symm), posF_sel (like1_same fun h => (p3 h).trans (k1 h).2.symm)]
      rfl
    have fin2 : ∀ {inf' bal' : Int}, (one = 0 → inf' = inf ∧ bal' = bal) → (twoT idx cel ofl one two inf' cls bal' (okE one v1) one (okE two v2) two (okE one v3) one).sel = some (b_ true) := by
      intro inf' bal' k1
      unfold twoT
      rw [eqF_d, brD]
      by_cases h : two = 0
      · obtain ⟨a1, a2, a3⟩ := htwo h
        rw [if_pos h, askB_sel a1, askB_sel a2, askB_sel a3]
        exact fin k1 fun _ => rfl
      · rw [if_neg h]
        exact fin k1 fun h' => absurd h' h
    unfold oneT
    rw [eqF_d, brD]
    by_cases h : one = 0
    · obtain ⟨a1, a2, a3, a4⟩ := hone h
      rw [if_pos h, askB_sel a1, askB_sel a2, askB_sel a3, askB_sel a1, askB_sel a2, askB_sel a4]
      exact fin2 fun _ => ⟨rfl, rfl⟩
    · rw [if_neg h]
      exact fin2 fun h' => absurd h' h
def rE (cs : List Value) (ring : Int) : Int := intO cs[0 + ring.toNat * 4]?
def cE_ (cs : List Value) (ring : Int) : Int := intO cs[0 + ring.toNat * 4 + 1]?
def tE_ (cs : List Value) (ring : Int) : Int := intO cs[0 + ring.toNat * 4 + 1 + 1]?
def pE_ (cs : List Value) (ring : Int) : Int := intO cs[0 + ring.toNat * 4 + 1 + 1 + 1]?
def cpA_ (n1 n2 n : Nat) : BlA := ⟨n1, n1, n2, n2, n, n, match n with
  | 0 => true
  | _ + 1 => false⟩
def argA (n1 n2 n : Nat) : BlA := ⟨n1, n1, n2, n2, n, n, false⟩
def cpS (cs1 cs2 cs3 : List Value) (n : Nat) : List (List Value) :=
  match n with
  | 0 => [cs1, cs2]
  | _ + 1 => [cs1, cs2, cs3]
noncomputable def lawV3 (cs1 cs2 cs3 : List Value) (n1 n2 n : Nat) (w s q ring a d x : Int) : VT :=
  lawT (tru ((argA n1 n2 n).nil = false ∧ fl3 [cs1, cs2, cs3])) (shE n1 n2 n) (tru (okCp (argA n1 n2 n) cs1 cs2 cs3)) (tru (okP ⟨cpA_ n1 n2 n, w, s, q, ring, a, d⟩ (cpS cs1 cs2 cs3 n))) (tru (okP ⟨cpA_ n1 n2 n, w, s, q, ring, x, 0⟩ (cpS cs1 cs2 cs3 n))) (tru (okP ⟨cpA_ n1 n2 n, w, s, q, ring, a, d⟩ (cpS cs1 cs2 cs3 n))) (tru (okB3 (argA n1 n2 n) [cs1, cs2, cs3]))
    (leF 0 ring && (ltF ring n && decide (n ≤ n))) (areCells k4 cs3 (0 + ring.toNat * 4)) (tru (okRI ((rE cs3 ring, cE_ cs3 ring, tE_ cs3 ring, pE_ cs3 ring), (w, s, q), a, d) [])) (tru (okRB ⟨n1, n1, n2, n2, rE cs3 ring, cE_ cs3 ring, tE_ cs3 ring, pE_ cs3 ring, w, s, q, a, d⟩ [cs1, cs2])) (tru (fl2 [cs1, cs2]))
    (sE_ ⟨argA n1 n2 n, w, s, q, ring, 0, 0⟩ [cs1, cs2, cs3]) (indE a d) (rangeE x 0 999999999)
    (infE (rE cs3 ring) w s a d) (clE (wrapF .i64 (wrapF .i64 (x - tE_ cs3 ring) - q)) n1) (rbalV ⟨n1, n1, n2, n2, rE cs3 ring, cE_ cs3 ring, tE_ cs3 ring, pE_ cs3 ring, w, s, q, a, d⟩ [cs1, cs2])
    (okE (firstE (sE_ ⟨cpA_ n1 n2 n, w, s, q, ring, a, d⟩ (cpS cs1 cs2 cs3 n)) (indE a d)) (infE (rhoC (cpS cs1 cs2 cs3 n) (4 * ring.toNat)) w s a d)) (firstE (sE_ ⟨cpA_ n1 n2 n, w, s, q, ring, a, d⟩ (cpS cs1 cs2 cs3 n)) (indE a d))
    (okE (firstE (sE_ ⟨cpA_ n1 n2 n, w, s, q, ring, x, 0⟩ (cpS cs1 cs2 cs3 n)) (rangeE x 0 999999999)) (clE (wrapF .i64 (x - wrapF .i64 (rhoC (cpS cs1 cs2 cs3 n) (4 * ring.toNat + 2) + q))) n1)) (firstE (sE_ ⟨cpA_ n1 n2 n, w, s, q, ring, x, 0⟩ (cpS cs1 cs2 cs3 n)) (rangeE x 0 999999999))
    (okE (firstE (sE_ ⟨cpA_ n1 n2 n, w, s, q, ring, a, d⟩ (cpS cs1 cs2 cs3 n)) (indE a d)) (balF ⟨cpA_ n1 n2 n, w, s, q, ring, a, d⟩ (cpS cs1 cs2 cs3 n))) (firstE (sE_ ⟨cpA_ n1 n2 n, w, s, q, ring, a, d⟩ (cpS cs1 cs2 cs3 n)) (indE a d))
section
variable (cs1 cs2 cs3 : List Value) (t1 s1 t2 s2 t3 s3 n1 n2 : Nat) (w s q ring a d x e : Int)
theorem law_run0 : (execO Tryz.prog 7 CN 60 (.call Fn.law03_RotorInflows ⟨[blV n1 n1 n2 n2 (sl 6 0 0 0), flV w s q, spV ring a d x e]⟩ (heapL (hpN cs1 t1 s1 cs2 t2 s2 cs3 t3 s3)))).vals = lawV3 cs1 cs2 cs3 n1 n2 0 w s q ring a d x := by kernel_rfl
theorem law_fix0 : execO Tryz.prog 7 CN 60 (.call Fn.law03_RotorInflows ⟨[blV n1 n1 n2 n2 (sl 6 0 0 0), flV w s q, spV ring a d x e]⟩ (heapL (hpN cs1 t1 s1 cs2 t2 s2 cs3 t3 s3))) = (execO Tryz.prog 7 CN 60 (.call Fn.law03_RotorInflows ⟨[blV n1 n1 n2 n2 (sl 6 0 0 0), flV w s q, spV ring a d x e]⟩ (heapL (hpN cs1 t1 s1 cs2 t2 s2 cs3 t3 s3)))).fix := by kernel_rfl
theorem law_run1 : (execO Tryz.prog 7 CN 60 (.call Fn.law03_RotorInflows ⟨[blV n1 n1 n2 n2 (sl 6 0 1 1), flV w s q, spV ring a d x e]⟩ (heapL (hpN cs1 t1 s1 cs2 t2 s2 cs3 t3 s3)))).vals = lawV3 cs1 cs2 cs3 n1 n2 1 w s q ring a d x := by kernel_rfl
theorem law_fix1 : execO Tryz.prog 7 CN 60 (.call Fn.law03_RotorInflows ⟨[blV n1 n1 n2 n2 (sl 6 0 1 1), flV w s q, spV ring a d x e]⟩ (heapL (hpN cs1 t1 s1 cs2 t2 s2 cs3 t3 s3))) = (execO Tryz.prog 7 CN 60 (.call Fn.law03_RotorInflows ⟨[blV n1 n1 n2 n2 (sl 6 0 1 1), flV w s q, spV ring a d x e]⟩ (heapL (hpN cs1 t1 s1 cs2 t2 s2 cs3 t3 s3)))).fix := by kernel_rfl
theorem law_run2 : (execO Tryz.prog 7 CN 60 (.call Fn.law03_RotorInflows ⟨[blV n1 n1 n2 n2 (sl 6 0 2 2), flV w s q, spV ring a d x e]⟩ (heapL (hpN cs1 t1 s1 cs2 t2 s2 cs3 t3 s3)))).vals = lawV3 cs1 cs2 cs3 n1 n2 2 w s q ring a d x := by kernel_rfl
theorem law_fix2 : execO Tryz.prog 7 CN 60 (.call Fn.law03_RotorInflows ⟨[blV n1 n1 n2 n2 (sl 6 0 2 2), flV w s q, spV ring a d x e]⟩ (heapL (hpN cs1 t1 s1 cs2 t2 s2 cs3 t3 s3))) = (execO Tryz.prog 7 CN 60 (.call Fn.law03_RotorInflows ⟨[blV n1 n1 n2 n2 (sl 6 0 2 2), flV w s q, spV ring a d x e]⟩ (heapL (hpN cs1 t1 s1 cs2 t2 s2 cs3 t3 s3)))).fix := by kernel_rfl
theorem law_run3 : (execO Tryz.prog 7 CN 60 (.call Fn.law03_RotorInflows ⟨[blV n1 n1 n2 n2 (sl 6 0 3 3), flV w s q, spV ring a d x e]⟩ (heapL (hpN cs1 t1 s1 cs2 t2 s2 cs3 t3 s3)))).vals = lawV3 cs1 cs2 cs3 n1 n2 3 w s q ring a d x := by kernel_rfl
theorem law_fix3 : execO Tryz.prog 7 CN 60 (.call Fn.law03_RotorInflows ⟨[blV n1 n1 n2 n2 (sl 6 0 3 3), flV w s q, spV ring a d x e]⟩ (heapL (hpN cs1 t1 s1 cs2 t2 s2 cs3 t3 s3))) = (execO Tryz.prog 7 CN 60 (.call Fn.law03_RotorInflows ⟨[blV n1 n1 n2 n2 (sl 6 0 3 3), flV w s q, spV ring a d x e]⟩ (heapL (hpN cs1 t1 s1 cs2 t2 s2 cs3 t3 s3)))).fix := by kernel_rfl
theorem law_run17 : (execO Tryz.prog 7 CN 60 (.call Fn.law03_RotorInflows ⟨[blV n1 n1 n2 n2 (sl 6 0 17 17), flV w s q, spV ring a d x e]⟩ (heapL (hpN cs1 t1 s1 cs2 t2 s2 cs3 t3 s3)))).vals = lawV3 cs1 cs2 cs3 n1 n2 17 w s q ring a d x := by kernel_rfl
theorem law_fix17 : execO Tryz.prog 7 CN 60 (.call Fn.law03_RotorInflows ⟨[blV n1 n1 n2 n2 (sl 6 0 17 17), flV w s q, spV ring a d x e]⟩ (heapL (hpN cs1 t1 s1 cs2 t2 s2 cs3 t3 s3))) = (execO Tryz.prog 7 CN 60 (.call Fn.law03_RotorInflows ⟨[blV n1 n1 n2 n2 (sl 6 0 17 17), flV w s q, spV ring a d x e]⟩ (heapL (hpN cs1 t1 s1 cs2 t2 s2 cs3 t3 s3)))).fix := by kernel_rfl
end
/-- blades that are not short -/
noncomputable def zB : Ent := fun _ H => some (some (tru False), i 0, H, [])
noncomputable def CN0 : Cfg := ⟨ext TN Fn.law03_blade zB, CN.sp, off_, noL⟩
theorem tsN0 {G : Nat} : TSound Tryz.prog G CN0.T := tsN.ext fun args H c v H' l he hc _ => by
  unfold zB at he
  cases he
  exact (tru_iff.1 hc).elim
end Go.Proofs.YtbocpikgochioaaGreatDoor.Ways
namespace Go.Proofs.YtbocpikgochioaaGreatDoor.Ways
open Go Go.Ex
/-! ### what both sides compute -/
theorem idx0 (cs : List Value) (ring : Int) : rhoE cs (4 * ring.toNat) = rE cs ring := by
  unfold rhoE rE; rw [show 4 * ring.toNat = 0 + ring.toNat * 4 from by omega]
theorem idx1 (cs : List Value) (ring : Int) : rhoE cs (4 * ring.toNat + 1) = cE_ cs ring := by
  unfold rhoE cE_; rw [show 4 * ring.toNat + 1 = 0 + ring.toNat * 4 + 1 from by omega]
theorem idx2 (cs : List Value) (ring : Int) : rhoE cs (4 * ring.toNat + 2) = tE_ cs ring := by
  unfold rhoE tE_; rw [show 4 * ring.toNat + 2 = 0 + ring.toNat * 4 + 1 + 1 from by omega]
theorem idx3 (cs : List Value) (ring : Int) : rhoE cs (4 * ring.toNat + 3) = pE_ cs ring := by
  unfold rhoE pE_; rw [show 4 * ring.toNat + 3 = 0 + ring.toNat * 4 + 1 + 1 + 1 from by omega]
theorem pow_two {d : Int} (h : 1 ≤ d ∧ d ≤ 12) : powE d = 2 * powE (d - 1) ∧ 1 ≤ powE (d - 1) := by
  have : d = 1 ∨ d = 2 ∨ d = 3 ∨ d = 4 ∨ d = 5 ∨ d = 6 ∨ d = 7 ∨ d = 8 ∨ d = 9 ∨ d = 10 ∨ d = 11 ∨ d = 12 := by omega
  rcases this with rfl | rfl | rfl | rfl | rfl | rfl | rfl | rfl | rfl | rfl | rfl | rfl <;> decide
theorem inf_bd {r w s a d : Int} (hr : 1 ≤ r ∧ r ≤ 200) (hw : 1 ≤ w ∧ w ≤ 50) (hs : 1 ≤ s ∧ s ≤ 1000) (hd : 1 ≤ d ∧ d ≤ 12) (ha : 0 ≤ a ∧ a ≤ powE (d - 1)) :
    infE r w s a d = (1024 * (powE d - a) * w) / (powE d * s * r) ∧ 0 ≤ infE r w s a d ∧ infE r w s a d ≤ 209715200 := by
  obtain ⟨p1, p2⟩ := pow_two hd
  have hp := pow_bd hd
  obtain ⟨q1, q2, q3⟩ := den_eq hr hs hd
  have m1 := mul_bd (a := powE d - a) (b := w) (A := 4096) (B := 50) (by omega) (by omega)
  have e1 : wrapF .i64 (powE d - a) = powE d - a := wrapF_in (by omega) (by omega)
  have e2 : wrapF .i64 (1024 * (powE d - a)) = 1024 * (powE d - a) := wrapF_in (by omega) (by omega)
  have e3 : 1024 * (powE d - a) * w = 1024 * ((powE d - a) * w) := Int.mul_assoc _ _ _
  have e4 : wrapF .i64 (1024 * (powE d - a) * w) = 1024 * (powE d - a) * w := wrapF_in (by omega) (by omega)
  have h0 : 0 ≤ 1024 * (powE d - a) * w := by omega
  have h1 : 0 ≤ (1024 * (powE d - a) * w) / (powE d * s * r) := Int.ediv_nonneg h0 (by omega)
  have h2 : (1024 * (powE d - a) * w) / (powE d * s * r) ≤ 1024 * (powE d - a) * w := Int.ediv_le_self _ h0
  have e5 : infE r w s a d = (1024 * (powE d - a) * w) / (powE d * s * r) := by
    unfold infE
    rw [e1, e2, e4, q1, Int.tdiv_eq_ediv_of_nonneg h0, wrapF_in (by omega) (by omega)]
  rw [e5]
  exact ⟨rfl, h1, by omega⟩
theorem twist_eq {x t q : Int} (hx : 0 ≤ x ∧ x ≤ 999999999) (ht : -64 ≤ t ∧ t ≤ 64) (hq : -64 ≤ q ∧ q ≤ 64) : wrapF .i64 (x - wrapF .i64 (t + q)) = wrapF .i64 (wrapF .i64 (x - t) - q) := by
  rw [wrapF_in (n := t + q) (by omega) (by omega), wrapF_in (n := x - t) (by omega) (by omega)]
  congr 1
  omega
section
variable {cs1 cs2 cs3 : List Value} {n1 n2 n : Nat} {w s q ring a d x : Int}
/-- what the law's arguments are -/
structure LawIn (cs1 cs2 cs3 : List Value) (n1 n2 n : Nat) : Prop where
  o1 : OkI cs1 n1 n1
  l1 : cs1.length = n1
  o2 : OkI cs2 n2 n2
  l2 : cs2.length = n2
  r3 : cs3 = ringC (rhoE cs3) n
  k3 : ∀ j, j < n → areCells k4 cs3 (0 + j * 4) = true
  f : five n
theorem bad_eq (cs1 cs2 cs3 : List Value) (n1 n2 n : Nat) (w s q ring x d : Int) : sE_ ⟨cpA_ n1 n2 n, w, s, q, ring, x, d⟩ (cpS cs1 cs2 cs3 n) = sE_ ⟨argA n1 n2 n, w, s, q, ring, 0, 0⟩ [cs1, cs2, cs3] := by
  cases n with
  | succ k => rfl
  | zero =>
    show secE (bladeE cs1 n1 cs2 n2 (rhoE []) 0) (flowE w s q) ring 0 = secE (bladeE cs1 n1 cs2 n2 (rhoE cs3) 0) (flowE w s q) ring 0
    have : bladeE cs1 n1 cs2 n2 (rhoE []) 0 = bladeE cs1 n1 cs2 n2 (rhoE cs3) 0 := by
      unfold bladeE
      by_cases h : polE cs1 n1 cs2 n2 = 0
      · rw [if_pos h, if_pos h, if_pos rfl, if_pos rfl]
      · rw [if_neg h, if_neg h]
    rw [this]
/-- what a ring without errors is -/
theorem ring_in (_hI : LawIn cs1 cs2 cs3 n1 n2 n) (h : sE_ ⟨argA n1 n2 n, w, s, q, ring, 0, 0⟩ [cs1, cs2, cs3] = 0) :
    (0 ≤ ring ∧ ring < n) ∧ 1 ≤ n1 ∧ (1 ≤ rE cs3 ring ∧ rE cs3 ring ≤ 200) ∧ (1 ≤ cE_ cs3 ring ∧ cE_ cs3 ring ≤ 100) ∧ (-64 ≤ tE_ cs3 ring ∧ tE_ cs3 ring ≤ 64) ∧ (0 ≤ pE_ cs3 ring ∧ pE_ cs3 ring ≤ 256) ∧ (1 ≤ w ∧ w ≤ 50) ∧ (1 ≤ s ∧ s ≤ 1000) ∧ (-64 ≤ q ∧ q ≤ 64) := by
  obtain ⟨hb, hf, h1, h2⟩ := sec_z (show secE (bladeE cs1 n1 cs2 n2 (rhoE cs3) n) (flowE w s q) ring n = 0 from h)
  obtain ⟨hp, _, _, hr⟩ := blade_z hb
  obtain ⟨hrj, _⟩ := hr ring.toNat (by omega)
  obtain ⟨g1, g2, g3, g4⟩ := ring4_z hrj
  obtain ⟨f1, f2, f3⟩ := flow_z hf
  rw [idx0] at g1
  rw [idx1] at g2
  rw [idx2] at g3
  rw [idx3] at g4
  exact ⟨⟨h1, h2⟩, (pol_z hp).1, g1, g2, g3, g4, f1, f2, f3⟩
theorem cpS_pos (h : 0 < n) : cpS cs1 cs2 cs3 n = [cs1, cs2, cs3] := by
  cases n with
  | zero => omega
  | succ k => rfl
theorem okP_cp (hI : LawIn cs1 cs2 cs3 n1 n2 n) (x d : Int) : okP ⟨cpA_ n1 n2 n, w, s, q, ring, x, d⟩ (cpS cs1 cs2 cs3 n) := by
  obtain ⟨o1, l1, o2, l2, r3, k3, f⟩ := hI
  cases n with
  | zero => exact ⟨⟨rfl, rfl, o1, o2⟩, fun h => by cases h⟩
  | succ k => exact ⟨⟨rfl, ⟨o1, o2⟩, f, rfl, r3⟩, fun _ h => by cases h⟩
theorem lawV3_sel (hI : LawIn cs1 cs2 cs3 n1 n2 n) : (lawV3 cs1 cs2 cs3 n1 n2 n w s q ring a d x).sel = some (b_ true) := by
  have hI' := hI
  obtain ⟨o1, l1, o2, l2, r3, k3, f⟩ := hI
  have f3 : cs3.all Ex.flat = true := by rw [r3]; exact ringC_flat _ _
  have hz : ∀ {iE : Int}, firstE (sE_ ⟨argA n1 n2 n, w, s, q, ring, 0, 0⟩ [cs1, cs2, cs3]) iE = 0 → sE_ ⟨argA n1 n2 n, w, s, q, ring, 0, 0⟩ [cs1, cs2, cs3] = 0 ∧ iE = 0 := fun h => firstE_z h
  have hidx : sE_ ⟨argA n1 n2 n, w, s, q, ring, 0, 0⟩ [cs1, cs2, cs3] = 0 → (leF 0 ring && (ltF ring n && decide (n ≤ n))) = true ∧ areCells k4 cs3 (0 + ring.toNat * 4) = true := by
    intro h
    obtain ⟨⟨h1, h2⟩, _⟩ := ring_in hI' h
    refine ⟨?_, k3 _ (by omega)⟩
    simp [leF_eq, ltF_eq, h1, h2]
  have hval : sE_ ⟨argA n1 n2 n, w, s, q, ring, 0, 0⟩ [cs1, cs2, cs3] = 0 → rhoC (cpS cs1 cs2 cs3 n) = rhoE cs3 ∧ csA (cpS cs1 cs2 cs3 n) = cs1 := by
    intro h
    obtain ⟨⟨h1, h2⟩, _⟩ := ring_in hI' h
    rw [cpS_pos (by omega)]
    exact ⟨rfl, rfl⟩
  unfold lawV3
  rw [bad_eq, bad_eq]
  refine lawT_sel (v1 := infE (rhoC (cpS cs1 cs2 cs3 n) (4 * ring.toNat)) w s a d) (v2 := clE (wrapF .i64 (x - wrapF .i64 (rhoC (cpS cs1 cs2 cs3 n) (4 * ring.toNat + 2) + q))) n1) (v3 := balF ⟨cpA_ n1 n2 n, w, s, q, ring, a, d⟩ (cpS cs1 cs2 cs3 n))
    (tru_iff.2 ⟨rfl, o1.1, o2.1, f3⟩) (tru_iff.2 ⟨rfl, ⟨o1, l1⟩, ⟨o2, l2⟩, f, rfl, r3⟩) (tru_iff.2 (okP_cp hI' _ _)) (tru_iff.2 (okP_cp hI' _ _)) (tru_iff.2 (okP_cp hI' _ _)) (tru_iff.2 ⟨rfl, ⟨o1, o2⟩, f, rfl, r3⟩) (fun h => ?_) (fun h => ?_) ⟨rfl, rfl, fun h => ?_⟩ ⟨rfl, rfl, fun h => ?_⟩ ⟨rfl, rfl, fun h => ?_⟩
  · obtain ⟨hb, hi⟩ := hz h
    obtain ⟨k1, k2⟩ := hidx hb
    obtain ⟨_, g0, g1, g2, g3, g4, f1, f2, f3⟩ := ring_in hI' hb
    obtain ⟨i1, i2⟩ := ind_z hi
    exact ⟨k1, k2, tru_iff.2 ⟨⟨by dsimp only; omega, i1.2⟩, den_ne g1 f2 i1⟩, tru_iff.2 ⟨o1, o2.1, g0, i1, den_ne g1 f2 i1⟩⟩
  · obtain ⟨hb, hi⟩ := hz h
    obtain ⟨k1, k2⟩ := hidx hb
    exact ⟨k1, k2, tru_iff.2 ⟨o1.1, o2.1⟩⟩
  · obtain ⟨hb, hi⟩ := hz h
    rw [(hval hb).1, idx0]
  · obtain ⟨hb, hi⟩ := hz h
    obtain ⟨_, g0, g1, g2, g3, g4, f1, f2, f3⟩ := ring_in hI' hb
    rw [(hval hb).1, idx2, twist_eq (range_z hi) g3 f3]
  · obtain ⟨hb, hi⟩ := hz h
    obtain ⟨_, g0, g1, g2, g3, g4, f1, f2, f3⟩ := ring_in hI' hb
    obtain ⟨i1, i2⟩ := ind_z hi
    obtain ⟨_, b1, b2⟩ := inf_bd (a := a) g1 f1 f2 i1 i2
    unfold balF
    rw [(hval hb).1, (hval hb).2]
    show balE (rhoE cs3 (4 * ring.toNat)) (rhoE cs3 (4 * ring.toNat + 1)) (rhoE cs3 (4 * ring.toNat + 3)) a d (liftE cs1 (clE (wrapF .i64 (infE (rhoE cs3 (4 * ring.toNat)) w s a d - wrapF .i64 (rhoE cs3 (4 * ring.toNat + 2) + q))) n1)) = balE (rE cs3 ring) (cE_ cs3 ring) (pE_ cs3 ring) a d (liftE cs1 (clE (wrapF .i64 (wrapF .i64 (infE (rE cs3 ring) w s a d - tE_ cs3 ring) - q)) n1))
    rw [idx0, idx1, idx2, idx3, twist_eq ⟨b1, by omega⟩ g3 f3]
theorem shE_five (h : shE n1 n2 n = true) : five n ∨ (n = 0 ∨ n = 1 ∨ n = 2 ∨ n = 3 ∨ n = 17) := by
  unfold shE at h
  rw [decide_eq_true_eq] at h
  right
  omega
end
section
variable (cs1 cs2 cs3 : List Value) (t1 s1 t2 s2 t3 s3 n1 n2 n : Nat) (w s q ring a d x e : Int)
theorem law_rung : (execO Tryz.prog 7 CN0 60 (.call Fn.law03_RotorInflows ⟨[blV n1 n1 n2 n2 (sl 6 0 n n), flV w s q, spV ring a d x e]⟩ (heapL (hpN cs1 t1 s1 cs2 t2 s2 cs3 t3 s3)))).vals = askB (tru ((argA n1 n2 n).nil = false ∧ fl3 [cs1, cs2, cs3])) (.br (shE n1 n2 n) (.br (tru False) .fail .fail) (lf true)) := by kernel_rfl
theorem law_fixg : execO Tryz.prog 7 CN0 60 (.call Fn.law03_RotorInflows ⟨[blV n1 n1 n2 n2 (sl 6 0 n n), flV w s q, spV ring a d x e]⟩ (heapL (hpN cs1 t1 s1 cs2 t2 s2 cs3 t3 s3))) = (execO Tryz.prog 7 CN0 60 (.call Fn.law03_RotorInflows ⟨[blV n1 n1 n2 n2 (sl 6 0 n n), flV w s q, spV ring a d x e]⟩ (heapL (hpN cs1 t1 s1 cs2 t2 s2 cs3 t3 s3)))).fix := by kernel_rfl
end
/-- the run returns true -/
theorem law_true {cs1 cs2 cs3 : List Value} {t1 s1 t2 s2 t3 s3 n1 n2 n : Nat} {w s q ring a d x e : Int} (f1 : cs1.all Ex.flat = true) (f2 : cs2.all Ex.flat = true) (f3 : cs3.all Ex.flat = true) (hin : five n → n1 ≤ 1000000 → n2 ≤ 1000000 → LawIn cs1 cs2 cs3 n1 n2 n) :
    ∃ H', Sound Tryz.prog 7 (.call Fn.law03_RotorInflows ⟨[blV n1 n1 n2 n2 (sl 6 0 n n), flV w s q, spV ring a d x e]⟩ (heapL (hpN cs1 t1 s1 cs2 t2 s2 cs3 t3 s3))) (.val (b_ true) H') := by
  cases hs : shE n1 n2 n with
  | false =>
    refine one_tree (C := CN0) (n := 60) _ tsN0 .none (law_fixg cs1 cs2 cs3 t1 s1 t2 s2 t3 s3 n1 n2 n w s q ring a d x e) (law_rung cs1 cs2 cs3 t1 s1 t2 s2 t3 s3 n1 n2 n w s q ring a d x e) ?_
    rw [askB_sel (tru_iff.2 ⟨rfl, f1, f2, f3⟩), hs]; rfl
  | true =>
    have hs' := hs
    unfold shE at hs'
    rw [decide_eq_true_eq] at hs'
    have hn : n = 0 ∨ n = 1 ∨ n = 2 ∨ n = 3 ∨ n = 17 := by omega
    have hI := hin hn (by omega) (by omega)
    rcases hn with rfl | rfl | rfl | rfl | rfl
    · exact one_tree (C := CN) (n := 60) _ tsN .none (law_fix0 ..) (law_run0 ..) (lawV3_sel hI)
    · exact one_tree (C := CN) (n := 60) _ tsN .none (law_fix1 ..) (law_run1 ..) (lawV3_sel hI)
    · exact one_tree (C := CN) (n := 60) _ tsN .none (law_fix2 ..) (law_run2 ..) (lawV3_sel hI)
    · exact one_tree (C := CN) (n := 60) _ tsN .none (law_fix3 ..) (law_run3 ..) (lawV3_sel hI)
    · exact one_tree (C := CN) (n := 60) _ tsN .none (law_fix17 ..) (law_run17 ..) (lawV3_sel hI)
end Go.Proofs.YtbocpikgochioaaGreatDoor.Ways
