import Derived.Test.YtafpmehhdcmllaaGreatDoorMr6
noncomputable section
namespace Go.Proofs.YtafpmehhdcmllaaGreatDoor.Ways
open Go Go.Ex Go.RowKit
/-! ### MarketSettles: the trees where a list is empty -/
noncomputable def spA : Nat → Nat → Split := at_ [(7, 21), (7, 25), (7, 30), (7, 34), (7, 40), (7, 76), (7, 92), (7, 96), (7, 101), (7, 112), (7, 117), (7, 122)] .bool no_
noncomputable def CA : Cfg := ⟨TB true true true, spA, syT, noL⟩
noncomputable def oA7 (t s t2 s2 : Nat) (ex e2 : Bool) (a b c d e : Int) : Out QRes := execO Tryz.prog 6 CA 80 (.call 7 ⟨[ag [i a, i b, i c, i d, i e], sl 4 0 0 0, sl 5 0 0 0]⟩ (heapL (hA ++ [.cells [] t s ex, .cells [] t2 s2 e2])))
def m0 : Int := fst2 (mnE 0 96) 0
section
variable (cs ps : List Value) (n m : Nat) (a b c d e : Int)
noncomputable def endG (aa : VT → VT) (e2 bad : Int) (tq : Bool) (x y z r : Int) : VT :=
  .br (eqF (qcE a b c d e) (qcE a b c d e)) (.br (eqF (amP (qcE a b c d e) (pcE x y z) (rvP x y z a (enE c e))) r) (.br (eqF (fst2 (qcE a b c d e) (pcE x y z)) (fst2 (qcE a b c d e) (pcE x y z)))
    (aa (.br (eqF e2 bad) (.br tq (.br (eqF e2 bad) lt lf) lf) lf)) lf) lf) lf
noncomputable def refA (x y z r : Int) : VT := aV (tru (PdE [] [] 0 0 0 0 ∧ 0 = 0)) <| aV (tru (PdE [] [] 0 0 0 0)) <| endG a b c d e (aV (tru (CzE k2 2 [] 0 0))) 0 0 (eqT zQ zQ) x y z r
noncomputable def setA (t : VT) : VT := aV (tru (P47 [] 0 true)) <| aV (tru (P48 [] 0 true)) <| aV (tru (okI [i (mnE 0 96), i 0] 2 2)) <| aV (tru (okI [i (mnE 0 96), i 0] 2 2)) <| aV (tru (okI [i m0, i m0, i (shE 0 0)] 3 3)) t
noncomputable def mainA (x y z : Int) : VT :=
  setA <| setA <| aV (tru (okI [i (qcE a b c d e), i (pcE x y z)] 2 2)) <| aV (tru (P51 [] [] 0 0 true)) <| .br (eqF (fst2 (qcE a b c d e) (pcE x y z)) 0) (refA a b c d e x y z (rvR x y z a (enE c e))) (refA a b c d e x y z 0)
noncomputable def oneA : VT := .br (ltF 0 (0 : Nat)) (aV (bnd_ 0 0 0) (aV (cR k3 3 [] 0) (mainA a b c d e (ce 3 0 [] 0) (ce 3 1 [] 0) (ce 3 2 [] 0)))) (mainA a b c d e 0 0 0)
/-! no quarter, some prices -/
def xB : Int := fst3 m0 (cpE ps m) (shE 0 m)
noncomputable def setB (t : VT) : VT := aV (tru (P47 [] 0 true)) <| aV (tru (P48 ps m false)) <| aV (tru (okI [i (mnE 0 96), i 0] 2 2)) <| aV (tru (okR k3 3 ps m m)) <| aV (tru (okI [i m0, i (cpE ps m), i (shE 0 m)] 3 3)) <| .br (!eqF (xB ps m) 0) t .fail
noncomputable def refB (x y z r : Int) : VT := .br (eqF (csE [] ps 0 m) 0) .fail (endG a b c d e (fun t => t) (xB ps m) (csE [] ps 0 m) (eqT zQ zQ) x y z r)
noncomputable def mainB (x y z : Int) : VT :=
  setB ps m <| setB ps m <| aV (tru (okI [i (qcE a b c d e), i (pcE x y z)] 2 2)) <| aV (tru (P51 [] ps 0 m false)) <| .br (eqF (fst2 (qcE a b c d e) (pcE x y z)) 0) (refB ps m a b c d e x y z (rvR x y z a (enE c e))) (refB ps m a b c d e x y z 0)
noncomputable def oneB : VT := .br (ltF 0 m) (aV (bnd_ 0 m m) (aV (cR k3 3 ps 0) (mainB ps m a b c d e (ce 3 0 ps 0) (ce 3 1 ps 0) (ce 3 2 ps 0)))) (mainB ps m a b c d e 0 0 0)
/-! some quarters, no prices -/
def xC : Int := fst3 (cqE cs n) m0 (shE n 0)
noncomputable def setC (t : VT) : VT := aV (tru (P47 cs n false)) <| aV (tru (P48 [] 0 true)) <| aV (tru (okR k5 5 cs n n)) <| aV (tru (okI [i (mnE 0 96), i 0] 2 2)) <| aV (tru (okI [i (cqE cs n), i m0, i (shE n 0)] 3 3)) <| .br (!eqF (xC cs n) 0) t .fail
noncomputable def refC (x y z r : Int) : VT := .br (eqF (csE cs [] n 0) 0) .fail (endG a b c d e (fun t => t) (xC cs n) (csE cs [] n 0) (eqT zQ zQ) x y z r)
noncomputable def mainC (x y z : Int) : VT :=
  setC cs n <| setC cs n <| aV (tru (okI [i (qcE a b c d e), i (pcE x y z)] 2 2)) <| aV (tru (P51 cs [] n 0 false)) <| .br (eqF (fst2 (qcE a b c d e) (pcE x y z)) 0) (refC cs n a b c d e x y z (rvR x y z a (enE c e))) (refC cs n a b c d e x y z 0)
noncomputable def oneC : VT := .br (ltF 0 (0 : Nat)) (aV (bnd_ 0 0 0) (aV (cR k3 3 [] 0) (mainC cs n a b c d e (ce 3 0 [] 0) (ce 3 1 [] 0) (ce 3 2 [] 0)))) (mainC cs n a b c d e 0 0 0)
variable (t s t2 s2 : Nat) (ex e2 : Bool)
theorem wA : (oA7 t s t2 s2 ex e2 a b c d e).vals = lawT 0 0 (oneA a b c d e) := by kernel_rfl
theorem yA : oA7 t s t2 s2 ex e2 a b c d e = (oA7 t s t2 s2 ex e2 a b c d e).fix := by kernel_rfl
theorem wB : (o7 false true false [] ps t s 0 t2 s2 m ex e2 a b c d e).vals = lawT 0 m (oneB ps m a b c d e) := by kernel_rfl
theorem yB : o7 false true false [] ps t s 0 t2 s2 m ex e2 a b c d e = (o7 false true false [] ps t s 0 t2 s2 m ex e2 a b c d e).fix := by kernel_rfl
theorem wC : (o7 false false true cs [] t s n t2 s2 0 ex e2 a b c d e).vals = lawT n 0 (oneC cs n a b c d e) := by kernel_rfl
theorem yC : o7 false false true cs [] t s n t2 s2 0 ex e2 a b c d e = (o7 false false true cs [] t s n t2 s2 0 ex e2 a b c d e).fix := by kernel_rfl
theorem y7t : o7 true false false cs ps t s n t2 s2 m ex e2 a b c d e = (o7 true false false cs ps t s n t2 s2 m ex e2 a b c d e).fix := by kernel_rfl
theorem y7f : o7 false false false cs ps t s n t2 s2 m ex e2 a b c d e = (o7 false false false cs ps t s n t2 s2 m ex e2 a b c d e).fix := by kernel_rfl
end
end Go.Proofs.YtafpmehhdcmllaaGreatDoor.Ways
noncomputable section
namespace Go.Proofs.YtafpmehhdcmllaaGreatDoor.Ways
open Go Go.Ex Go.RowKit
/-! ### MarketSettles: the law's trees come out true -/
theorem mx_eq (w : Int) : mxP w = mxR w := by
  unfold mxP mxR
  by_cases h : 0 < w
  · rw [if_neg (by omega), if_pos h]
  · rw [if_neg h]
    by_cases h2 : w < 0
    · rw [if_pos h2]
    · rw [if_neg h2]; omega
theorem rg_z {x lo hi : Int} (h : rgE x lo hi = 0) : lo ≤ x ∧ x ≤ hi := by
  unfold rgE at h
  by_cases h' : lo ≤ x ∧ x ≤ hi
  · exact h'
  · rw [if_neg h'] at h; cases h
theorem qcE_z {a b c d e : Int} (h : qcE a b c d e = 0) : (0 ≤ a ∧ a ≤ 6400000) ∧ (0 ≤ c ∧ c ≤ 6400000) ∧ (0 ≤ e ∧ e ≤ 6400000) := by
  unfold qcE at h
  by_cases h' : toE a ≠ 0 ∨ toE b ≠ 0 ∨ toE c ≠ 0 ∨ toE d ≠ 0 ∨ toE e ≠ 0
  · rw [if_pos h'] at h; cases h
  · have ha : toE a = 0 := by by_cases q : toE a = 0; exact q; exact absurd (.inl q) h'
    have hc : toE c = 0 := by by_cases q : toE c = 0; exact q; exact absurd (.inr (.inr (.inl q))) h'
    have he : toE e = 0 := by by_cases q : toE e = 0; exact q; exact absurd (.inr (.inr (.inr (.inr q)))) h'
    exact ⟨rg_z ha, rg_z hc, rg_z he⟩
theorem pcE_z {a b c : Int} (h : pcE a b c = 0) : 0 ≤ c ∧ c ≤ 10000 := by
  unfold pcE at h
  by_cases h1 : prE c = 0
  · exact rg_z h1
  · rw [if_pos (by simp [h1])] at h; cases h
theorem rv_eq {a b c d e x y z : Int} (hq : qcE a b c d e = 0) (hp : pcE x y z = 0) : rvP x y z a (enE c e) = rvR x y z a (enE c e) := by
  obtain ⟨ha, hc, he⟩ := qcE_z hq
  have hz := pcE_z hp
  have hE : enE c e = e + c := wrapF_in (by omega) (by omega)
  unfold rvP rvR
  rw [hE, mx_eq, wrapF_in (n := e + c - a) (by omega) (by omega), wrapF_in (n := a - (e + c)) (by omega) (by omega)]
  generalize wrapF .i64 (wrapF .i64 (y * a) + wrapF .i64 (x * mxR (e + c - a))) = A
  by_cases h : 0 < a - (e + c)
  · have k1 : mnP (e + c - a) = -(a - (e + c)) := by unfold mnP; rw [if_neg (by omega)]; omega
    have k2 : mxR (a - (e + c)) = a - (e + c) := by unfold mxR; rw [if_pos h]
    rw [k1, k2, Int.mul_neg]
    have b1 : 0 ≤ z * (a - (e + c)) := Int.mul_nonneg hz.1 (by omega)
    have b2 : z * (a - (e + c)) ≤ 10000 * 6400000 := Int.mul_le_mul hz.2 (by omega) (by omega) (by omega)
    generalize z * (a - (e + c)) = k at b1 b2
    rw [wrapF_in (n := -k) (by omega) (by omega), wrapF_in (n := k) (by omega) (by omega)]
    rfl
  · have k1 : mnP (e + c - a) = 0 := by
      unfold mnP
      by_cases h2 : 0 < e + c - a
      · rw [if_pos h2]
      · rw [if_neg h2]; omega
    have k2 : mxR (a - (e + c)) = 0 := by unfold mxR; rw [if_neg h]
    rw [k1, k2, Int.mul_zero, wrapF_in (n := 0) (by omega) (by omega), Int.add_zero, Int.sub_zero]
theorem fst2_z {a b : Int} (h : fst2 a b = 0) : a = 0 ∧ b = 0 := by
  rw [fst2'] at h
  by_cases h1 : a = 0
  · rw [if_neg (by simpa using h1)] at h; exact ⟨h1, h⟩
  · rw [if_pos h1] at h; exact absurd h h1
theorem am_ok {a b c d e x y z : Int} (h : fst2 (qcE a b c d e) (pcE x y z) = 0) : amP (qcE a b c d e) (pcE x y z) (rvP x y z a (enE c e)) = rvR x y z a (enE c e) := by
  unfold amP
  rw [if_pos h]
  exact rv_eq (fst2_z h).1 (fst2_z h).2
theorem am_no {q p r : Int} (h : fst2 q p ≠ 0) : amP q p r = 0 := by
  unfold amP
  rw [if_neg h]
theorem eqF_t (a : Int) : eqF a a = true := by rw [eqF_d]; exact decide_eq_true rfl
theorem eqF_of {a b : Int} (h : a = b) : eqF a b = true := by rw [h]; exact eqF_t b
theorem eqT_t (p : Q6) : eqT p p = true := by
  unfold eqT
  simp
theorem eqT_of {p q : Q6} (h : p = q) : eqT p q = true := by rw [h]; exact eqT_t q
/-! what is known of the lists -/
def rawQ (cs : List Value) (n : Nat) : Prop := cs.all Ex.flat = true ∧ cs.length = n * 5 ∧ ∀ j, j < n → areCells k5 cs (0 + j * 5) = true
def rawP (ps : List Value) (m : Nat) : Prop := ps.all Ex.flat = true ∧ ps.length = m * 3 ∧ ∀ j, j < m → areCells k3 ps (0 + j * 3) = true
theorem okQ_of {cs : List Value} {n : Nat} (h : rawQ cs n) (hn : n < 1000000) : okR k5 5 cs n n := ⟨h.1, Nat.le_refl _, by omega, h.2.2⟩
theorem okP_of {ps : List Value} {m : Nat} (h : rawP ps m) (hm : m < 1000000) : okR k3 3 ps m m := ⟨h.1, Nat.le_refl _, by omega, h.2.2⟩
theorem days_z {e : Nat → Int} {n : Nat} (h : (if 96 < n then 5 else firstF e n 0) = (0 : Int)) : ∀ j, j < n → e j = 0 := by
  by_cases h1 : 96 < n
  · rw [if_pos h1] at h; cases h
  · rw [if_neg h1] at h
    intro j hj
    exact (firstF_zero n 0).1 h j (by omega) (by omega)
theorem f_eq {cs ps : List Value} {n m : Nat} (h : csE cs ps n m = 0) : ∀ j, j < n → fP cs ps j = fR cs ps j := by
  obtain ⟨h1, h2, rfl⟩ := csE_eq0 h
  intro j hj
  have q := days_z (e := eQ cs) h1 j hj
  have p := days_z (e := eP ps) h2 j hj
  unfold fP fR qP qR
  rw [rv_eq q p]
theorem rs_eq {cs ps : List Value} {n m : Nat} (h : csE cs ps n m = 0) : rsP cs ps n = rsR cs ps n := rwL_ext (f_eq h)
theorem sumW_ext {f g : Nat → Int} : ∀ {n : Nat}, (∀ j, j < n → f j = g j) → sumW f n = sumW g n
  | 0, _ => rfl
  | n + 1, h => by
    show wrapF .i64 (sumW f n + f n) = wrapF .i64 (sumW g n + g n)
    rw [sumW_ext fun j hj => h j (by omega), h n (by omega)]
theorem bk_eq {cs ps : List Value} {n m : Nat} (h : csE cs ps n m = 0) : bkS cs (ce 2 1 (rsP cs ps n)) n = bkS cs (qR cs ps) n := by
  unfold bkS
  rw [sumW_ext (f := ce 2 1 (rsP cs ps n)) (g := qR cs ps) fun j hj => by
    have h1 := (rwL_ce (fP cs ps) hj).2
    unfold rsP
    rw [h1, f_eq h j hj]
    rfl]
/-! the parts -/
section
variable {cs ps : List Value} {n m : Nat} {a b c d e x y z r : Int}
theorem endT_sel {g : Bool} (hg : g = true → csE cs ps n m = 0) (h1 : 1 ≤ n) (hn : n < 1000000) (hr : amP (qcE a b c d e) (pcE x y z) (rvP x y z a (enE c e)) = r) : (endT cs ps n m a b c d e g x y z r).sel = some (b_ true) := by
  unfold endT
  rw [vb_t (eqF_t _), vb_t (eqF_of hr), vb_t (eqF_t _)]
  cases g with
  | true =>
    have h0 := hg rfl
    show (aV (tru (CmE k2 2 (rsP cs ps n) n n)) (aV (tru (SwE (rsP cs ps n) (rsR cs ps n) n n n n)) (.br (eqF 0 0) (.br (eqT (bkS cs (ce 2 1 (rsP cs ps n)) n) (bkS cs (qR cs ps) n)) (.br (eqF 0 0) lt lf) lf) lf))).sel = _
    rw [aP ⟨rwL_ok _ _ hn, h1, hn, rwL_len _ _⟩, aP ⟨rwL_ok _ _ hn, rwL_ok _ _ hn, rfl, hn, fun j _ => by rw [rs_eq h0]; exact eqW_self _ _⟩, vb_t (eqF_t _), vb_t (eqT_of (bk_eq h0)), vb_t (eqF_t _)]; rfl
  | false =>
    show (VT.br (eqF (csE cs ps n m) (csE cs ps n m)) (.br (eqT zQ zQ) (.br (eqF (csE cs ps n m) (csE cs ps n m)) lt lf) lf) lf).sel = _
    rw [vb_t (eqF_t _), vb_t (eqT_t _), vb_t (eqF_t _)]; rfl
theorem refT_sel {g : Bool} (hg : g = true ↔ csE cs ps n m = 0) (h1 : 1 ≤ n) (hn : n < 1000000) (hk : ok2 cs ps n n m m) (hr : amP (qcE a b c d e) (pcE x y z) (rvP x y z a (enE c e)) = r) : (refT cs ps n m a b c d e g x y z r).sel = some (b_ true) := by
  have he := endT_sel (g := g) (n := n) (m := m) hg.1 h1 hn hr
  unfold refT
  cases g with
  | true =>
    have h0 := (csE_eq0 (hg.1 rfl)).2.2
    show (aV (tru (PdE cs ps n n m m ∧ 1 ≤ n)) (aV (tru (PdE cs ps n n m m)) _)).sel = _
    rw [aP ⟨⟨hk, h0, hn⟩, h1⟩, aP ⟨hk, h0, hn⟩]
    exact he
  | false =>
    have h0 : csE cs ps n m ≠ 0 := fun h => by have := hg.2 h; cases this
    show (VT.br (eqF (csE cs ps n m) 0) .fail _).sel = _
    rw [vb_f (by rw [eqF_d, decide_eq_false h0])]
    exact he
theorem am_sel {P : Int → VT} (h : ∀ r, amP (qcE a b c d e) (pcE x y z) (rvP x y z a (enE c e)) = r → (P r).sel = some (b_ true)) : (VT.br (eqF (fst2 (qcE a b c d e) (pcE x y z)) 0) (P (rvR x y z a (enE c e))) (P 0)).sel = some (b_ true) := by
  by_cases hf : fst2 (qcE a b c d e) (pcE x y z) = 0
  · rw [vb_t (eqF_of hf)]; exact h _ (am_ok hf)
  · rw [vb_f (by rw [eqF_d, decide_eq_false hf])]; exact h _ (am_no hf)
theorem mainT_sel {g : Bool} (hc : rawQ cs n) (hp : rawP ps m) (hg : g = true ↔ csE cs ps n m = 0) (h1 : 1 ≤ n) (hn : n < 1000000) (h2 : 1 ≤ m) (hm : m < 1000000) : (mainT cs ps n m a b c d e g x y z).sel = some (b_ true) := by
  have kq := okQ_of hc hn
  have kp := okP_of hp hm
  have w7 : P47 cs n false := ⟨kq, h1, hn, hc.2.1⟩
  have w8 : P48 ps m false := ⟨kp, h2, hm, hp.2.1⟩
  have w6 : P46 cs ps n m g := by
    cases g with
    | true => exact ⟨⟨kq, kp⟩, hg.1 rfl, hn⟩
    | false => exact ⟨⟨kq, kp⟩, fun h => by have := hg.2 h; cases this⟩
  have w5 : P51 cs ps n m g := by
    cases g with
    | true => exact ⟨⟨kq, kp⟩, hg.1 rfl⟩
    | false => exact ⟨⟨kq, kp⟩, fun h => by have := hg.2 h; cases this⟩
  unfold mainT
  rw [aP w7, aP w8, aP w6, aP w7, aP w8, aP w6, aP (okI2 _ _), aP w5]
  exact am_sel fun r hr => refT_sel hg h1 hn ⟨kq, kp⟩ hr
theorem one_sel {F : Int → Int → Int → VT} (hp : rawP ps m) (hm : m < 1000000) (h : ∀ x y z, (F x y z).sel = some (b_ true)) : (VT.br (ltF 0 m) (aV (bnd_ 0 m m) (aV (cR k3 3 ps 0) (F (ce 3 0 ps 0) (ce 3 1 ps 0) (ce 3 2 ps 0)))) (F 0 0 0)).sel = some (b_ true) := by
  by_cases h0 : 0 < m
  · rw [vb_t (by rw [ltF_eq]; exact decide_eq_true (by omega)), aV_sel (show bnd_ 0 m m = true from bnd_t (j := 0) h0 (Nat.le_refl m)), aV_sel (show cR k3 3 ps 0 = true from cR_t (okP_of hp hm) h0)]
    exact h _ _ _
  · rw [vb_f (by rw [ltF_eq]; exact decide_eq_false (by omega))]
    exact h _ _ _
theorem pre_sel {M : VT} (h : m < 1000000 → M.sel = some (b_ true)) : (preT m M).sel = some (b_ true) := by
  unfold preT
  by_cases h1 : 8 < m
  · rw [vb_t (by rw [ltF_eq]; exact decide_eq_true (by omega))]
    by_cases h2 : m = 97
    · rw [vb_f (by rw [eqF_d, decide_eq_true (by omega)]; rfl)]; exact h (by omega)
    · rw [vb_t (by rw [eqF_d, decide_eq_false (by omega)]; rfl)]; rfl
  · rw [vb_f (by rw [ltF_eq]; exact decide_eq_false (by omega))]; exact h (by omega)
theorem lawT_sel {M : VT} (h : n < 1000000 → m < 1000000 → M.sel = some (b_ true)) : (lawT n m M).sel = some (b_ true) := by
  unfold lawT
  by_cases h1 : 8 < n
  · rw [vb_t (by rw [ltF_eq]; exact decide_eq_true (by omega))]
    by_cases h2 : n = 97
    · rw [vb_f (by rw [eqF_d, decide_eq_true (by omega)]; rfl)]; exact pre_sel fun hm => h (by omega) hm
    · rw [vb_t (by rw [eqF_d, decide_eq_false (by omega)]; rfl)]; rfl
  · rw [vb_f (by rw [ltF_eq]; exact decide_eq_false (by omega))]; exact pre_sel fun hm => h (by omega) hm
/-! a list is empty -/
theorem m0_z : m0 = 0 := by decide
theorem nilQ : rawQ [] 0 := ⟨rfl, rfl, fun j hj => by omega⟩
theorem nilP : rawP [] 0 := ⟨rfl, rfl, fun j hj => by omega⟩
theorem endG_sel {aa : VT → VT} {e2 bad : Int} {tq : Bool} (ha : ∀ t, (aa t).sel = t.sel) (hb : e2 = bad) (ht : tq = true) (hr : amP (qcE a b c d e) (pcE x y z) (rvP x y z a (enE c e)) = r) : (endG a b c d e aa e2 bad tq x y z r).sel = some (b_ true) := by
  unfold endG
  rw [vb_t (eqF_t _), vb_t (eqF_of hr), vb_t (eqF_t _), ha, vb_t (eqF_of hb), vb_t ht, vb_t (eqF_of hb)]; rfl
theorem mainA_sel : (mainA a b c d e x y z).sel = some (b_ true) := by
  have kq := okQ_of nilQ (by omega)
  have kp := okP_of nilP (by omega)
  have hs : ∀ t, (setA t).sel = t.sel := fun t => by
    unfold setA
    rw [aP ⟨kq, rfl⟩, aP ⟨kp, rfl⟩, aP (okI2 _ _), aP (okI2 _ _), aP (okI3 _ _ _)]
  unfold mainA
  rw [hs, hs, aP (okI2 _ _), aP ⟨⟨kq, kp⟩, by decide⟩]
  refine am_sel fun r hr => ?_
  unfold refA
  rw [aP ⟨⟨⟨kq, kp⟩, rfl, by omega⟩, rfl⟩, aP ⟨⟨kq, kp⟩, rfl, by omega⟩]
  exact endG_sel (fun t => aP ⟨⟨rfl, Nat.le_refl _, by omega, fun j hj => by omega⟩, rfl⟩) rfl (eqT_t _) hr
theorem mainB_sel (hp : rawP ps m) (h2 : 1 ≤ m) (hm : m < 1000000) : (mainB ps m a b c d e x y z).sel = some (b_ true) := by
  have kq := okQ_of nilQ (by omega)
  have kp := okP_of hp hm
  have hne : csE [] ps 0 m ≠ 0 := fun h => by have := (csE_eq0 h).2.2; omega
  have hx : xB ps m = csE [] ps 0 m := by
    rw [← a3_eq]
    unfold xB a3
    rw [m0_z]; rfl
  have hs : ∀ t, (setB ps m t).sel = t.sel := fun t => by
    unfold setB
    rw [aP ⟨kq, rfl⟩, aP ⟨kp, h2, hm, hp.2.1⟩, aP (okI2 _ _), aP kp, aP (okI3 _ _ _), vb_t (ne_t (by rw [hx]; exact hne))]
  unfold mainB
  rw [hs, hs, aP (okI2 _ _), aP ⟨⟨kq, kp⟩, hne⟩]
  refine am_sel fun r hr => ?_
  unfold refB
  rw [vb_f (by rw [eqF_d, decide_eq_false hne])]
  exact endG_sel (fun t => rfl) hx (eqT_t _) hr
theorem mainC_sel (hc : rawQ cs n) (h1 : 1 ≤ n) (hn : n < 1000000) : (mainC cs n a b c d e x y z).sel = some (b_ true) := by
  have kq := okQ_of hc hn
  have kp := okP_of nilP (by omega)
  have hne : csE cs [] n 0 ≠ 0 := fun h => by have := (csE_eq0 h).2.2; omega
  have hx : xC cs n = csE cs [] n 0 := by
    rw [← a3_eq]
    unfold xC a3
    rw [m0_z]; rfl
  have hs : ∀ t, (setC cs n t).sel = t.sel := fun t => by
    unfold setC
    rw [aP ⟨kq, h1, hn, hc.2.1⟩, aP ⟨kp, rfl⟩, aP kq, aP (okI2 _ _), aP (okI3 _ _ _), vb_t (ne_t (by rw [hx]; exact hne))]
  unfold mainC
  rw [hs, hs, aP (okI2 _ _), aP ⟨⟨kq, kp⟩, hne⟩]
  refine am_sel fun r hr => ?_
  unfold refC
  rw [vb_f (by rw [eqF_d, decide_eq_false hne])]
  exact endG_sel (fun t => rfl) hx (eqT_t _) hr
end
section
variable {cs ps : List Value} {t s n t2 s2 m : Nat} {ex e2 : Bool} {a b c d e : Int}
theorem law_true (hc : rawQ cs n) (hp : rawP ps m) : ∃ H', Sound Tryz.prog 6 (.call 7 ⟨[ag [i a, i b, i c, i d, i e], sl 4 0 n n, sl 5 0 m m]⟩ (heapL (hA ++ [.cells cs t s ex, .cells ps t2 s2 e2]))) (.val (b_ true) H') := by
  by_cases h1 : n = 0
  · subst h1
    have hcs : cs = [] := List.length_eq_zero_iff.1 (by have := hc.2.1; omega)
    subst hcs
    by_cases h2 : m = 0
    · subst h2
      have hps : ps = [] := List.length_eq_zero_iff.1 (by have := hp.2.1; omega)
      subst hps
      obtain ⟨H', h'⟩ := Out.vals_sel (yA a b c d e t s t2 s2 ex e2) (v := b_ true) (by
        rw [wA]
        exact lawT_sel fun _ _ => one_sel (F := mainA a b c d e) nilP (by omega) fun x y z => mainA_sel)
      exact ⟨H', execO_sound (C := CA) (tsB true true true) .none 80 _ _ h'⟩
    · obtain ⟨H', h'⟩ := Out.vals_sel (yB ps m a b c d e t s t2 s2 ex e2) (v := b_ true) (by
        rw [wB]
        exact lawT_sel fun _ hm => one_sel (F := mainB ps m a b c d e) hp hm fun x y z => mainB_sel hp (by omega) hm)
      exact ⟨H', execO_sound (C := CT false true false) (tsB false true false) .none 80 _ _ h'⟩
  · by_cases h2 : m = 0
    · subst h2
      have hps : ps = [] := List.length_eq_zero_iff.1 (by have := hp.2.1; omega)
      subst hps
      obtain ⟨H', h'⟩ := Out.vals_sel (yC cs n a b c d e t s t2 s2 ex e2) (v := b_ true) (by
        rw [wC]
        exact lawT_sel fun hn _ => one_sel (F := mainC cs n a b c d e) nilP (by omega) fun x y z => mainC_sel hc (by omega) hn)
      exact ⟨H', execO_sound (C := CT false false true) (tsB false false true) .none 80 _ _ h'⟩
    · by_cases hg : csE cs ps n m = 0
      · obtain ⟨H', h'⟩ := Out.vals_sel (y7t cs ps n m a b c d e t s t2 s2 ex e2) (v := b_ true) (by
          rw [w7t]
          exact lawT_sel fun hn hm => one_sel (F := mainT cs ps n m a b c d e true) hp hm fun x y z => mainT_sel hc hp (by simp [hg]) (by omega) hn (by omega) hm)
        exact ⟨H', execO_sound (C := CT true false false) (tsB true false false) .none 80 _ _ h'⟩
      · obtain ⟨H', h'⟩ := Out.vals_sel (y7f cs ps n m a b c d e t s t2 s2 ex e2) (v := b_ true) (by
          rw [w7f]
          exact lawT_sel fun hn hm => one_sel (F := mainT cs ps n m a b c d e false) hp hm fun x y z => mainT_sel hc hp (by simp [hg]) (by omega) hn (by omega) hm)
        exact ⟨H', execO_sound (C := CT false false false) (tsB false false false) .none 80 _ _ h'⟩
end
end Go.Proofs.YtafpmehhdcmllaaGreatDoor.Ways
