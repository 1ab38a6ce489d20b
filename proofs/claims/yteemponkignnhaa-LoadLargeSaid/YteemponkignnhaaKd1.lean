import Derived.Test.YteemponkignnhaaZz1
set_option maxRecDepth 10000
noncomputable section
namespace Go.Proofs.Yteemponkignnhaa.Ways
open Go Go.Ex Go.RowKit Go.Turn
noncomputable def T36 (f : Bool) : Tb := ext (ext (ext (ext (ext (ext (ext (ext (ext TZ3 13 (newE (sp11 true false) [] (heapL deads))) 14 (xE 0 rd0 sp12 [] (heapL deads))) 19 (newE sp17t [] (heapL deads)))
  20 (autoE (sp18g true) [] (heapL deads))) 21 (newE (sp19 false) [] (heapL deads))) 22 (autoE (sp18g true) [] (heapL deads))) 28 (newE (sp23 69) [] (heapL deads))) 63 (twoE (sp59 f) [] (heapL deads))) 74 (autoE sp70 [] (heapL deads))
theorem ts36 {G : Nat} (f : Bool) : TSound Try.prog G (T36 f) :=
  ((((((((tsZ3.new (f' := 13) (c11 true false)).x c12).new c17t).auto (c18g 20 (.inl rfl) true)).new (f' := 21) (c19 false)).auto (c18g 22 (.inr rfl) true)).new c26).two (c59 f)).auto c70
def aT (b : Bool) (t : TT) : TT := .br b t .fail
theorem tt_t {b : Bool} {t e : TT} (h : b = true) : (TT.br b t e).sel = t.sel := by subst h; rfl
theorem tP {p : Prop} {t : TT} (h : p) : (aT (tru p) t).sel = t.sel := tt_t (tru_iff.2 h)
section
variable (cs : List Value) (n : Nat) (t s : Nat) (ex : Bool)
noncomputable def C36 (f : Bool) : Cfg := ⟨T36 f, at_ [(38, 37), (38, 44)] .bool no_, off_, noL⟩
noncomputable def o36 (f : Bool) : Out QRes := execO Try.prog 2 (C36 f) 80 (.call 38 ⟨[sl 1 0 n n]⟩ (heapL (deads ++ [.cells cs t s ex])))
noncomputable def lfA (b : Bool) : TT := .leaf (tp [sl 6 0 (CC_ cs n).length (CC_ cs n).length, sl 7 0 (LD_ cs n) (LD_ cs n), b_ b]) [some (.cells (flatC (CC_ cs n)) 69 4 false), some (.cells (DS_ cs n) 70 2 false)]
noncomputable def lfN (b : Bool) : TT := .leaf (tp [.slice none 0 0, sl 5 0 (LD_ cs n) (LD_ cs n), b_ b]) [some (.cells (DS_ cs n) 70 2 false)]
theorem v36A : (o36 cs n t s ex true).twos [6, 7] = (aT (tru (okC cs n n)) <| aT (tru (RmE cs n n)) <| aT (tru (BokE (RS_ cs n) (RN_ cs n) (RN_ cs n) ∧ crE (RS_ cs n) (RN_ cs n) = 0)) <| aT (tru (P59 true (RS_ cs n) (RN_ cs n) (RN_ cs n))) <|
  aT (tru (CfE (flatC (CC_ cs n)) (CC_ cs n).length (CC_ cs n).length)) <| aT (tru (TokE (ST_ cs n) (LD_ cs n) (CP_ cs n))) <| .br (leF (CC_ cs n).length n) (.br (leF (LD_ cs n) n) (
  aT (tru (CfE (flatC (CC_ cs n)) (CC_ cs n).length (CC_ cs n).length)) <| aT (tru (GcE (flatC (CC_ cs n)) (CC_ cs n).length (CC_ cs n).length)) <|
  aT (tru (TokE (ST_ cs n) (LD_ cs n) (CP_ cs n))) <| aT (tru (BokE (DS_ cs n) (LD_ cs n) (LD_ cs n) ∧ crE (DS_ cs n) (LD_ cs n) = 0)) <| lfA cs n true) (lfA cs n false)) (lfA cs n false)) := by kernel_rfl
theorem v36N : (o36 cs n t s ex false).twos [5] = (aT (tru (okC cs n n)) <| aT (tru (RmE cs n n)) <| aT (tru (BokE (RS_ cs n) (RN_ cs n) (RN_ cs n) ∧ crE (RS_ cs n) (RN_ cs n) = 0)) <| aT (tru (P59 false (RS_ cs n) (RN_ cs n) (RN_ cs n))) <|
  aT (tru (TokE (ST_ cs n) (LD_ cs n) (CP_ cs n))) <| .br (leF 0 n) (.br (leF (LD_ cs n) n) (
  aT (tru (TokE (ST_ cs n) (LD_ cs n) (CP_ cs n))) <| aT (tru (BokE (DS_ cs n) (LD_ cs n) (LD_ cs n) ∧ crE (DS_ cs n) (LD_ cs n) = 0)) <| lfN cs n true) (lfN cs n false)) (lfN cs n false)) := by kernel_rfl
theorem x36 (f : Bool) : o36 cs n t s ex f = (o36 cs n t s ex f).fix := by cases f <;> kernel_rfl
end
def P36 (f : Bool) (cs : List Value) (n : Nat) : Prop := Fx cs n 0 ∧ (if f = true then CC_ cs n ≠ [] else CC_ cs n = [])
noncomputable def R36 (f : Bool) (cs : List Value) (n : Nat) : List NC := cond f
  [.s (CC_ cs n).length (CC_ cs n).length (flatC (CC_ cs n)) 69 4 false, .s (LD_ cs n) (LD_ cs n) (DS_ cs n) 70 2 false, .v (b_ true)]
  [.v (.slice none 0 0), .s (LD_ cs n) (LD_ cs n) (DS_ cs n) 70 2 false, .v (b_ true)]
noncomputable def sp36 (f : Bool) : TSpec := fun al css => match al, css with
  | [.slice (some ⟨1, 0, none⟩) n c], [cs] => some (c = n ∧ P36 f cs n, R36 f cs n)
  | _, _ => none
theorem c36 (f : Bool) : ∀ al css os p v, sp36 f al css = some (p, v) → p → Blks css os → (∀ cs ∈ css, cs.all Ex.flat = true) ∧ NC.Ok Try.prog 38 al deads os (gl + css.length) v := by
  intro al css os p v hs hp hb
  unfold sp36 at hs
  split at hs
  case h_2 => cases hs
  rename_i n c cs
  cases hs
  obtain ⟨t, s, ex, rfl⟩ := blks1 hb
  obtain ⟨rfl, h, hC⟩ := hp
  obtain ⟨k1, k2, k3⟩ := h.lok
  have h1 := h.rn
  have h2 := h.n24
  have h3 := lens cs c
  refine ⟨by simpa using h.ok.1, ?_⟩
  unfold R36
  cases f with
  | true =>
    refine twos_ok (C := C36 true) (n := 80) (κ := [6, 7]) (ts36 true) .none (x36 cs c t s ex true) ?_ rfl (by decide) (show ∀ c ∈ [6, 7], 2 ≤ c by decide) ?_
    · refine (congrArg TT.sel (v36A cs c t s ex)).trans ?_
      rw [tP k2, tP k3, tP ⟨h.bR, h.crR⟩, tP (h.p59 true hC), tP (h.cf hC), tP h.tS, tt_t (by rw [leF_eq]; exact decide_eq_true (by omega)), tt_t (by rw [leF_eq]; exact decide_eq_true (by omega)), tP (h.cf hC), tP h.gc, tP h.tS, tP ⟨h.bD, h.crD⟩]; rfl
    · show ((flatC (CC_ cs c)).all flat && ((DS_ cs c).all flat && (true && true))) = true
      rw [flatC_flat, h.st.2, flatP_flat]; rfl
  | false =>
    refine twos_ok (C := C36 false) (n := 80) (κ := [5]) (ts36 false) .none (x36 cs c t s ex false) ?_ rfl (by decide) (show ∀ c ∈ [5], 2 ≤ c by decide) ?_
    · refine (congrArg TT.sel (v36N cs c t s ex)).trans ?_
      rw [tP k2, tP k3, tP ⟨h.bR, h.crR⟩, tP (h.p59 false hC), tP h.tS, tt_t (by rw [leF_eq]; exact decide_eq_true (by omega)), tt_t (by rw [leF_eq]; exact decide_eq_true (by omega)), tP h.tS, tP ⟨h.bD, h.crD⟩]; rfl
    · show ((DS_ cs c).all flat && (true && true)) = true
      rw [h.st.2, flatP_flat]; rfl
end Go.Proofs.Yteemponkignnhaa.Ways
set_option maxRecDepth 10000
noncomputable section
namespace Go.Proofs.Yteemponkignnhaa.Ways
open Go Go.Ex Go.RowKit Go.Turn
noncomputable def OK5 : Array Oper := regC 5 60 (Try.f42.body.getD .skip)
noncomputable def OK9 : Array Oper := regC 9 60 (Try.f42.body.getD .skip)
noncomputable def BkI : Code := bodyL Try.f42 7
noncomputable def BkO : Code := bodyL Try.f42 3
def spK : Nat → Nat → Split := at_ [(42, 10), (42, 27), (42, 37), (42, 47), (42, 57)] .bool no_
def syK : Nat → Nat → Bool := on_ [(42, 15), (42, 17), (42, 20), (42, 22), (42, 32), (42, 34), (42, 42), (42, 44), (42, 52), (42, 54)]
noncomputable def CKI : Cfg := ⟨noT, spK, syK, noL⟩
noncomputable def CKz : Cfg := ⟨noT, no_, off_, noL⟩
noncomputable def CKf : Cfg := ⟨noT, no_, on_ [(42, 66), (42, 73), (42, 74), (42, 200074), (42, 500074)], noL⟩
noncomputable def CKm : Cfg := ⟨noT, no_, on_ [(42, 66), (42, 67), (42, 200067), (42, 70), (42, 300070), (42, 73), (42, 74), (42, 200074), (42, 500074)], noL⟩
noncomputable def CKe : Cfg := ⟨noT, no_, on_ [(42, 66), (42, 67), (42, 200067), (42, 70), (42, 300070), (42, 73), (42, 74), (42, 300074), (42, 500074)], noL⟩
noncomputable def CK5 : Cfg := ⟨noT, no_, on_ [(42, 15), (42, 17), (42, 20), (42, 22)], noL⟩
def X7 (st : List Value) (k l : Nat) : List Value := (st.drop (0 + k * 2)).take ((l - k) * 2)
theorem x7_flat {st : List Value} {k l : Nat} (h : st.all Ex.flat = true) : (X7 st k l).all Ex.flat = true :=
  List.all_eq_true.2 fun x hx => List.all_eq_true.1 h x (List.mem_of_mem_drop (List.mem_of_mem_take hx))
def slE (w : Int) (l : Nat) : Bool := leF 0 w && (leF w l && leF l l)
def nopE (l : Nat) : Bool := decide (l - l = 0) && (decide (l - l ≤ l - l) && decide (l + 1 ≤ l + 1))
def ap3 (k l : Nat) (st : List Value) (u : List Value) : Bool := fullB (l - k) (l - k) (k + 1) (k + 1) 2 (0 + k * 2) st u
end Go.Proofs.Yteemponkignnhaa.Ways
set_option maxRecDepth 10000
noncomputable section
namespace Go.Proofs.Yteemponkignnhaa.Ways
open Go Go.Ex Go.RowKit Go.Turn
section
variable (cs out : List Value) (n c l t s : Nat) (ex : Bool) (j lo hi : Int)
def hpK : List (CO × Bool) := [ddQ, (.cells cs t s ex, true), (.cells out 126 2 false, true), (.cells [i lo, i hi] 126 1 true, true)]
def ShK : Shape Int := ⟨76, fun a => ⟨[(0, sl 1 0 n c), (3, sl 2 0 l l), (4, i j), (5, pt 3 0), (6, i a)], hpK cs out t s ex lo hi⟩, fun _ a => (.exit 2, ⟨[(0, sl 1 0 n c), (3, sl 2 0 l l), (4, i j), (5, pt 3 0), (6, i a)], hpK cs out t s ex lo hi⟩)⟩
def nK (w : Int) : SS Int := .next 4 (List.range 4) w
def dK : SS Int := .done 4 (List.range 4) 0
def stK' (a w : Int) : SS Int := .br (ltF 0 a) (askS (bnd_ w l l) <| askS (cA out w) <| .br (ltF lo (pA out w.toNat)) (nK w) (askS (bnd_ w l l) <| askS (cA out w) <| .br (eqF (pA out w.toNat) lo) (askS (bnd_ w l l) <| askS (cB2 out w) <| .br (ltF hi (pB out w.toNat)) (nK w) dK) dK)) dK
def stK (a : Int) : SS Int := stK' out l lo hi a (wrapF .i64 (a - 1))
end
section
variable {cs out : List Value} {n c l t s : Nat} {ex : Bool} {j lo hi : Int}
theorem hpK_flat (g1 : cs.all Ex.flat = true) (g2 : out.all Ex.flat = true) : ∀ o, (o, true) ∈ hpK cs out t s ex lo hi → FlatO o := by
  intro o ho
  simp [hpK, ddQ] at ho
  rcases ho with rfl | rfl | rfl
  · exact fun x hx => List.all_eq_true.1 g1 x hx
  · exact fun x hx => List.all_eq_true.1 g2 x hx
  · exact fun x hx => List.all_eq_true.1 (show [i lo, i hi].all Ex.flat = true by rfl) x hx
theorem LkI (g1 : cs.all Ex.flat = true) (g2 : out.all Ex.flat = true) : Loop1 Try.prog 2 42 BkI (ShK cs out n c l t s ex j lo hi) 4 (stK out l lo hi) (fun _ => True) :=
  .mk' (C := fun _ => CKI) (n := 60) (fun _ _ => .none) (fun _ _ => .none) (fun q ro _ => by kernel_rfl) (fun q ro _ => by kernel_rfl) (fun q => by kernel_rfl) (fun _ _ _ _ => trivial)
    (fun _ _ => hpK_flat g1 g2) (fun _ _ _ _ => ⟨hpK_flat g1 g2, fun h => by cases h⟩)
end
end Go.Proofs.Yteemponkignnhaa.Ways
set_option maxRecDepth 10000
noncomputable section
namespace Go.Proofs.Yteemponkignnhaa.Ways
open Go Go.Ex Go.RowKit Go.Turn
section
def hpa5z (cs : List Value) (_n _c : Nat) (t s : Nat) (ex : Bool) : List (CO × Bool) := [(.dead, false), (.cells cs t s ex, true)]
def sa5z (cs : List Value) (n c : Nat) (t s : Nat) (ex : Bool) : SymS where
  live0 := [(0, sl 1 0 n c), (3, .slice none 0 0), (4, i 0)]
  S := [(13, 0, sl 1 0 n c), (14, 1, i 0), (15, 2, pt 1 (0 + 0 * 4)), (16, 3, pt 1 (0 + 0 * 4 + 2)), (17, 4, i (f_ cs (0) 2)), (18, 5, sl 1 0 n c), (19, 6, i 0), (20, 7, pt 1 (0 + 0 * 4)), (21, 8, pt 1 (0 + 0 * 4 + 3)), (22, 9, i (f_ cs (0) 3)), (23, 10, ag [i (f_ cs (0) 2), i (f_ cs (0) 3)]), (5, 11, pt 2 0)]
  S2 := []
  hp0 := hpa5z cs n c t s ex
  A := [(11, .cells [i 0, i 0] 126 1 true, 12, .cells [i (f_ cs (0) 2), i (f_ cs (0) 3)] 126 1 true)]
def cda5z (cs : List Value) (n c : Nat) (k : Nat) : List Bool := match k with
  | 2 => [bnd_ 0 n c]
  | 4 => [cI cs 2 0]
  | 7 => [bnd_ 0 n c]
  | 9 => [cI cs 3 0]
  | _ => []
end
def rhoa5z (k : Nat) : List Nat := match k with
  | 11 => (List.range 3).set 2 3
  | _ => List.range 3
def lena5z (k : Nat) : Nat := cond (Nat.beq k 11) 4 3
def ansa5z (k : Nat) : List Bool := match k with
  | 2 => [true]
  | 4 => [true]
  | 7 => [true]
  | 9 => [true]
  | _ => []
section
theorem fixa5z (cs : List Value) (n c : Nat) (t s : Nat) (ex : Bool) : ∀ B : List Bool, B.length = OK5.size → (List.range OK5.size).map (fun k => outV noW Try.prog 2 CK5 42 OK5 76 (sa5z cs n c t s ex) (forceN OK5.size (pre2 OK5) k B) k) = (List.range OK5.size).map fun k => (outV noW Try.prog 2 CK5 42 OK5 76 (sa5z cs n c t s ex) (forceN OK5.size (pre2 OK5) k B) k).fix
  | [x0, x1, x2, x3, x4, x5, x6, x7, x8, x9, x10, x11, x12], _ => by kernel_rfl
theorem obsa5z (cs : List Value) (n c : Nat) (t s : Nat) (ex : Bool) : ∀ B : List Bool, B.length = OK5.size → (List.range OK5.size).map (fun k => obsV noW Try.prog 2 CK5 42 OK5 76 (sa5z cs n c t s ex) rhoa5z ansa5z (forceN OK5.size (pre2 OK5) k B) k) = (List.range OK5.size).map fun k => expY 76 (sa5z cs n c t s ex) rhoa5z (cda5z cs n c) lena5z (forceN OK5.size (pre2 OK5) k B) k
  | [x0, x1, x2, x3, x4, x5, x6, x7, x8, x9, x10, x11, x12], _ => by kernel_rfl
def oka5z (cs : List Value) (n c : Nat) : Bool := bnd_ 0 n c && (cI cs 2 0 && (bnd_ 0 n c && (cI cs 3 0)))
end
section
variable {cs : List Value} {n c : Nat} {t s : Nat} {ex : Bool}
theorem hpa5z_flat (f1 : cs.all Ex.flat = true) : ∀ o, (o, true) ∈ hpa5z cs n c t s ex → FlatO o := by
  intro o ho
  simp [hpa5z] at ho
  rcases ho with rfl
  · exact fun x hx => List.all_eq_true.1 f1 x hx
theorem cda5z_ok (h : oka5z cs n c = true) : ∀ k, cda5z cs n c k = (ansa5z k).take (cda5z cs n c k).length := by
  unfold oka5z at h
  rw [Bool.and_eq_true, Bool.and_eq_true, Bool.and_eq_true] at h
  obtain ⟨g2, g4, g7, g9⟩ := h
  intro k
  unfold cda5z ansa5z
  split
  · rw [g2]; rfl
  · rw [g4]; rfl
  · rw [g7]; rfl
  · rw [g9]; rfl
  · rfl
theorem orda5z {kk : Nat} (hkk : kk = 2) (f1 : cs.all Ex.flat = true) (h : oka5z cs n c = true) : Orders (selfA (qS noW)) Try.prog 2 OK5 kk (fun m => m < 2 ^ OK5.size ∧ GoodY OK5 (bitsL OK5.size m)) (fun m => absT (tmL 76 ((sa5z cs n c t s ex).live (bitsL OK5.size m)))) (fun m => heapL ((sa5z cs n c t s ex).hp (bitsL OK5.size m))) (2 ^ OK5.size - 1) := by
  subst hkk
  exact sym_of2 (fixa5z cs n c t s ex) (obsa5z cs n c t s ex) (cda5z_ok h) (by kernel_rfl) (by kernel_rfl) (by kernel_rfl) (by kernel_rfl) (by kernel_rfl) (hpa5z_flat (n := n) (c := c) (t := t) (s := s) (ex := ex) f1)
    (fun q hq => by
      simp only [sa5z, List.mem_cons, List.not_mem_nil, or_false] at hq
      subst hq
      · exact ⟨fun x hx => List.all_eq_true.1 (by rfl) x hx, fun x hx => List.all_eq_true.1 (by rfl) x hx⟩)
    (fun _ hq => absurd hq List.not_mem_nil) (by kernel_rfl)
end
section
def tma5z (cs : List Value) (n c : Nat) (t s : Nat) (ex : Bool) : TM := tmL 76 ((sa5z cs n c t s ex).live (List.replicate 13 true))
def ha5z (cs : List Value) (n c : Nat) (t s : Nat) (ex : Bool) : CH := heapL ((sa5z cs n c t s ex).hp (List.replicate 13 true))
theorem enda5z : bitsL OK5.size (2 ^ OK5.size - 1) = List.replicate 13 true := by kernel_rfl
theorem pada5z (cs : List Value) (n c : Nat) (t s : Nat) (ex : Bool) : heapL ((sa5z cs n c t s ex).hp (bitsL OK5.size 0)) = heapL ((sa5z cs n c t s ex).hp0.map (·.1) ++ List.replicate 1 .dead) := by kernel_rfl
def ina5z (_cs : List Value) (n c : Nat) (_t _s : Nat) (_ex : Bool) : List (Nat × Value) := [(0, sl 1 0 n c), (3, .slice none 0 0), (4, i 0)]
theorem zeroa5z (cs : List Value) (n c : Nat) (t s : Nat) (ex : Bool) : tmL 76 ((sa5z cs n c t s ex).live (bitsL OK5.size 0)) = tmL 76 (ina5z cs n c t s ex) := by kernel_rfl
variable {cs : List Value} {n c : Nat} {t s : Nat} {ex : Bool}
theorem snda5z (f1 : cs.all Ex.flat = true) (h : oka5z cs n c = true) (ro : Option Nat) {tm0 : Array Value} {H0 : CH} (hk : H0.length = 2) (hst : Restate 2 tm0 H0 (absT (tmL 76 (ina5z cs n c t s ex))) (heapL ((sa5z cs n c t s ex).hp0.map (·.1)))) :
    Sound Try.prog 2 (.code (.region 5 OK5 true) ro tm0 H0 []) (.ex .normal (absT (tma5z cs n c t s ex)) (ha5z cs n c t s ex) []) := by
  have ho := orda5z (t := t) (s := s) (ex := ex) hk f1 h
  have hp := pada5z cs n c t s ex
  have hz := zeroa5z cs n c t s ex
  have h0 := goodY_zero OK5
  unfold tma5z ha5z
  rw [← enda5z]
  rw [← hz] at hst
  generalize sa5z cs n c t s ex = s at *
  rw [← hk] at hst
  exact orders_sound2 (tmS := fun m => absT (tmL 76 (s.live (bitsL OK5.size m)))) (HS := fun m => heapL (s.hp (bitsL OK5.size m))) (mF := 2 ^ OK5.size - 1) (qS_selfSound noW_sound) mixU ho (by rw [hk]; decide) h0 hp hst ro
end
section
noncomputable def La5z (cs : List Value) (n c : Nat) (t s : Nat) (ex : Bool) (L : LTab) : LTab := regE L 42 5 76 2 OK5 (ina5z cs n c t s ex) (sa5z cs n c t s ex).hp0 (.br (oka5z cs n c) (.leaf (.ex .normal (tma5z cs n c t s ex) (ha5z cs n c t s ex) [])) .fail)
variable {cs : List Value} {n c : Nat} {t s : Nat} {ex : Bool}
theorem lsa5z {L : LTab} (hL : LSound Try.prog 2 L) (f1 : cs.all Ex.flat = true) : LSound Try.prog 2 (La5z cs n c t s ex L) := by
  refine LSound.region hL (by kernel_rfl) (hpa5z_flat (n := n) (c := c) (t := t) (s := s) (ex := ex) f1) fun r hr ro tm0 H0 hk hst => ?_
  cases h : oka5z cs n c with
  | false => rw [h] at hr; cases hr
  | true =>
    rw [h] at hr
    cases hr
    exact snda5z (n := n) (c := c) (t := t) (s := s) (ex := ex) f1 h ro hk hst
end
end Go.Proofs.Yteemponkignnhaa.Ways
set_option maxRecDepth 10000
noncomputable section
namespace Go.Proofs.Yteemponkignnhaa.Ways
open Go Go.Ex Go.RowKit Go.Turn
section
def hpa5m (cs st : List Value) (_n _c _l : Nat) (_j : Int) (t s : Nat) (ex : Bool) : List (CO × Bool) := [(.dead, false), (.cells cs t s ex, true), (.cells st 126 2 false, true)]
def sa5m (cs st : List Value) (n c l : Nat) (j : Int) (t s : Nat) (ex : Bool) : SymS where
  live0 := [(0, sl 1 0 n c), (3, sl 2 0 l l), (4, i j)]
  S := [(13, 0, sl 1 0 n c), (14, 1, i j), (15, 2, pt 1 (0 + j.toNat * 4)), (16, 3, pt 1 (0 + j.toNat * 4 + 2)), (17, 4, i (f_ cs (j.toNat) 2)), (18, 5, sl 1 0 n c), (19, 6, i j), (20, 7, pt 1 (0 + j.toNat * 4)), (21, 8, pt 1 (0 + j.toNat * 4 + 3)), (22, 9, i (f_ cs (j.toNat) 3)), (23, 10, ag [i (f_ cs (j.toNat) 2), i (f_ cs (j.toNat) 3)]), (5, 11, pt 3 0)]
  S2 := []
  hp0 := hpa5m cs st n c l j t s ex
  A := [(11, .cells [i 0, i 0] 126 1 true, 12, .cells [i (f_ cs (j.toNat) 2), i (f_ cs (j.toNat) 3)] 126 1 true)]
def cda5m (cs : List Value) (n c : Nat) (j : Int) (k : Nat) : List Bool := match k with
  | 2 => [bnd_ j n c]
  | 4 => [cI cs 2 j]
  | 7 => [bnd_ j n c]
  | 9 => [cI cs 3 j]
  | _ => []
end
def rhoa5m (k : Nat) : List Nat := match k with
  | 11 => (List.range 4).set 3 4
  | _ => List.range 4
def lena5m (k : Nat) : Nat := cond (Nat.beq k 11) 5 4
def ansa5m (k : Nat) : List Bool := match k with
  | 2 => [true]
  | 4 => [true]
  | 7 => [true]
  | 9 => [true]
  | _ => []
section
theorem fixa5m (cs st : List Value) (n c l : Nat) (j : Int) (t s : Nat) (ex : Bool) : ∀ B : List Bool, B.length = OK5.size → (List.range OK5.size).map (fun k => outV noW Try.prog 2 CK5 42 OK5 76 (sa5m cs st n c l j t s ex) (forceN OK5.size (pre2 OK5) k B) k) = (List.range OK5.size).map fun k => (outV noW Try.prog 2 CK5 42 OK5 76 (sa5m cs st n c l j t s ex) (forceN OK5.size (pre2 OK5) k B) k).fix
  | [x0, x1, x2, x3, x4, x5, x6, x7, x8, x9, x10, x11, x12], _ => by kernel_rfl
theorem obsa5m (cs st : List Value) (n c l : Nat) (j : Int) (t s : Nat) (ex : Bool) : ∀ B : List Bool, B.length = OK5.size → (List.range OK5.size).map (fun k => obsV noW Try.prog 2 CK5 42 OK5 76 (sa5m cs st n c l j t s ex) rhoa5m ansa5m (forceN OK5.size (pre2 OK5) k B) k) = (List.range OK5.size).map fun k => expY 76 (sa5m cs st n c l j t s ex) rhoa5m (cda5m cs n c j) lena5m (forceN OK5.size (pre2 OK5) k B) k
  | [x0, x1, x2, x3, x4, x5, x6, x7, x8, x9, x10, x11, x12], _ => by kernel_rfl
def oka5m (cs : List Value) (n c : Nat) (j : Int) : Bool := bnd_ j n c && (cI cs 2 j && (bnd_ j n c && (cI cs 3 j)))
end
section
variable {cs st : List Value} {n c l : Nat} {j : Int} {t s : Nat} {ex : Bool}
theorem hpa5m_flat (f1 : cs.all Ex.flat = true) (f2 : st.all Ex.flat = true) : ∀ o, (o, true) ∈ hpa5m cs st n c l j t s ex → FlatO o := by
  intro o ho
  simp [hpa5m] at ho
  rcases ho with rfl | rfl
  · exact fun x hx => List.all_eq_true.1 f1 x hx
  · exact fun x hx => List.all_eq_true.1 f2 x hx
theorem cda5m_ok (h : oka5m cs n c j = true) : ∀ k, cda5m cs n c j k = (ansa5m k).take (cda5m cs n c j k).length := by
  unfold oka5m at h
  rw [Bool.and_eq_true, Bool.and_eq_true, Bool.and_eq_true] at h
  obtain ⟨g2, g4, g7, g9⟩ := h
  intro k
  unfold cda5m ansa5m
  split
  · rw [g2]; rfl
  · rw [g4]; rfl
  · rw [g7]; rfl
  · rw [g9]; rfl
  · rfl
theorem orda5m {kk : Nat} (hkk : kk = 3) (f1 : cs.all Ex.flat = true) (f2 : st.all Ex.flat = true) (h : oka5m cs n c j = true) : Orders (selfA (qS noW)) Try.prog 2 OK5 kk (fun m => m < 2 ^ OK5.size ∧ GoodY OK5 (bitsL OK5.size m)) (fun m => absT (tmL 76 ((sa5m cs st n c l j t s ex).live (bitsL OK5.size m)))) (fun m => heapL ((sa5m cs st n c l j t s ex).hp (bitsL OK5.size m))) (2 ^ OK5.size - 1) := by
  subst hkk
  exact sym_of2 (fixa5m cs st n c l j t s ex) (obsa5m cs st n c l j t s ex) (cda5m_ok h) (by kernel_rfl) (by kernel_rfl) (by kernel_rfl) (by kernel_rfl) (by kernel_rfl) (hpa5m_flat (n := n) (c := c) (l := l) (j := j) (t := t) (s := s) (ex := ex) f1 f2)
    (fun q hq => by
      simp only [sa5m, List.mem_cons, List.not_mem_nil, or_false] at hq
      subst hq
      · exact ⟨fun x hx => List.all_eq_true.1 (by rfl) x hx, fun x hx => List.all_eq_true.1 (by rfl) x hx⟩)
    (fun _ hq => absurd hq List.not_mem_nil) (by kernel_rfl)
end
section
def tma5m (cs st : List Value) (n c l : Nat) (j : Int) (t s : Nat) (ex : Bool) : TM := tmL 76 ((sa5m cs st n c l j t s ex).live (List.replicate 13 true))
def ha5m (cs st : List Value) (n c l : Nat) (j : Int) (t s : Nat) (ex : Bool) : CH := heapL ((sa5m cs st n c l j t s ex).hp (List.replicate 13 true))
theorem enda5m : bitsL OK5.size (2 ^ OK5.size - 1) = List.replicate 13 true := by kernel_rfl
theorem pada5m (cs st : List Value) (n c l : Nat) (j : Int) (t s : Nat) (ex : Bool) : heapL ((sa5m cs st n c l j t s ex).hp (bitsL OK5.size 0)) = heapL ((sa5m cs st n c l j t s ex).hp0.map (·.1) ++ List.replicate 1 .dead) := by kernel_rfl
def ina5m (_cs _st : List Value) (n c l : Nat) (j : Int) (_t _s : Nat) (_ex : Bool) : List (Nat × Value) := [(0, sl 1 0 n c), (3, sl 2 0 l l), (4, i j)]
theorem zeroa5m (cs st : List Value) (n c l : Nat) (j : Int) (t s : Nat) (ex : Bool) : tmL 76 ((sa5m cs st n c l j t s ex).live (bitsL OK5.size 0)) = tmL 76 (ina5m cs st n c l j t s ex) := by kernel_rfl
variable {cs st : List Value} {n c l : Nat} {j : Int} {t s : Nat} {ex : Bool}
theorem snda5m (f1 : cs.all Ex.flat = true) (f2 : st.all Ex.flat = true) (h : oka5m cs n c j = true) (ro : Option Nat) {tm0 : Array Value} {H0 : CH} (hk : H0.length = 3) (hst : Restate 3 tm0 H0 (absT (tmL 76 (ina5m cs st n c l j t s ex))) (heapL ((sa5m cs st n c l j t s ex).hp0.map (·.1)))) :
    Sound Try.prog 2 (.code (.region 5 OK5 true) ro tm0 H0 []) (.ex .normal (absT (tma5m cs st n c l j t s ex)) (ha5m cs st n c l j t s ex) []) := by
  have ho := orda5m (l := l) (t := t) (s := s) (ex := ex) hk f1 f2 h
  have hp := pada5m cs st n c l j t s ex
  have hz := zeroa5m cs st n c l j t s ex
  have h0 := goodY_zero OK5
  unfold tma5m ha5m
  rw [← enda5m]
  rw [← hz] at hst
  generalize sa5m cs st n c l j t s ex = s at *
  rw [← hk] at hst
  exact orders_sound2 (tmS := fun m => absT (tmL 76 (s.live (bitsL OK5.size m)))) (HS := fun m => heapL (s.hp (bitsL OK5.size m))) (mF := 2 ^ OK5.size - 1) (qS_selfSound noW_sound) mixU ho (by rw [hk]; decide) h0 hp hst ro
end
section
noncomputable def La5m (cs st : List Value) (n c l : Nat) (j : Int) (t s : Nat) (ex : Bool) (L : LTab) : LTab := regE L 42 5 76 3 OK5 (ina5m cs st n c l j t s ex) (sa5m cs st n c l j t s ex).hp0 (.br (oka5m cs n c j) (.leaf (.ex .normal (tma5m cs st n c l j t s ex) (ha5m cs st n c l j t s ex) [])) .fail)
variable {cs st : List Value} {n c l : Nat} {j : Int} {t s : Nat} {ex : Bool}
theorem lsa5m {L : LTab} (hL : LSound Try.prog 2 L) (f1 : cs.all Ex.flat = true) (f2 : st.all Ex.flat = true) : LSound Try.prog 2 (La5m cs st n c l j t s ex L) := by
  refine LSound.region hL (by kernel_rfl) (hpa5m_flat (n := n) (c := c) (l := l) (j := j) (t := t) (s := s) (ex := ex) f1 f2) fun r hr ro tm0 H0 hk hst => ?_
  cases h : oka5m cs n c j with
  | false => rw [h] at hr; cases hr
  | true =>
    rw [h] at hr
    cases hr
    exact snda5m (n := n) (c := c) (l := l) (j := j) (t := t) (s := s) (ex := ex) f1 f2 h ro hk hst
end
end Go.Proofs.Yteemponkignnhaa.Ways
set_option maxRecDepth 10000
noncomputable section
namespace Go.Proofs.Yteemponkignnhaa.Ways
open Go Go.Ex Go.RowKit Go.Turn
section
def hpa9z (cs : List Value) (_n _c : Nat) (_j lo hi : Int) (t s : Nat) (ex : Bool) : List (CO × Bool) := [(.dead, false), (.cells cs t s ex, true), (.cells [i lo, i hi] 126 1 true, true)]
def sa9z (cs : List Value) (n c : Nat) (j lo hi : Int) (t s : Nat) (ex : Bool) : SymS where
  live0 := [(0, sl 1 0 n c), (4, i j), (5, pt 2 0), (6, i 0)]
  S := [(63, 0, sl 3 0 0 0), (64, 1, .slice none 0 0), (65, 2, i 0), (66, 3, .slice none 0 0), (67, 4, sl 3 0 0 0), (68, 5, ag [i lo, i hi]), (69, 6, sl 4 0 1 1), (70, 7, sl 5 0 1 1), (71, 8, .slice none 0 0), (72, 9, i 0), (73, 10, .slice none 0 0), (74, 11, sl 5 0 1 1)]
  S2 := [(3, 12, .slice none 0 0, sl 5 0 1 1)]
  hp0 := hpa9z cs n c j lo hi t s ex
  A := [(0, .cells [] 126 2 true, 0, .cells [] 126 2 true), (6, .cells [i lo, i hi] 126 2 true, 6, .cells [i lo, i hi] 126 2 true), (7, .cells [i lo, i hi] 126 2 false, 7, .cells [i lo, i hi] 126 2 false)]
def cda9z (_ : Nat) (_ : Nat) : List Bool := []
end
def rhoa9z (k : Nat) : List Nat := match k with
  | 0 => (List.range 6).set 3 6
  | 6 => (List.range 6).set 4 6
  | 7 => (List.range 6).set 5 6
  | _ => List.range 6
def lena9z (k : Nat) : Nat := cond (Nat.beq k 0 || (Nat.beq k 6 || (Nat.beq k 7))) 7 6
def ansa9z (_ : Nat) : List Bool := []
section
theorem fixa9z (cs : List Value) (n c : Nat) (j lo hi : Int) (t s : Nat) (ex : Bool) : ∀ B : List Bool, B.length = OK9.size → (List.range OK9.size).map (fun k => outV noW Try.prog 2 CKz 42 OK9 76 (sa9z cs n c j lo hi t s ex) (forceN OK9.size (pre2 OK9) k B) k) = (List.range OK9.size).map fun k => (outV noW Try.prog 2 CKz 42 OK9 76 (sa9z cs n c j lo hi t s ex) (forceN OK9.size (pre2 OK9) k B) k).fix
  | [x0, x1, x2, x3, x4, x5, x6, x7, x8, x9, x10, x11, x12], _ => by kernel_rfl
theorem obsa9z (cs : List Value) (n c : Nat) (j lo hi : Int) (t s : Nat) (ex : Bool) : ∀ B : List Bool, B.length = OK9.size → (List.range OK9.size).map (fun k => obsV noW Try.prog 2 CKz 42 OK9 76 (sa9z cs n c j lo hi t s ex) rhoa9z ansa9z (forceN OK9.size (pre2 OK9) k B) k) = (List.range OK9.size).map fun k => expY 76 (sa9z cs n c j lo hi t s ex) rhoa9z (cda9z n) lena9z (forceN OK9.size (pre2 OK9) k B) k
  | [x0, x1, x2, x3, x4, x5, x6, x7, x8, x9, x10, x11, x12], _ => by kernel_rfl
def oka9z (_ : Nat) : Bool := true
end
section
variable {cs : List Value} {n c : Nat} {j lo hi : Int} {t s : Nat} {ex : Bool}
theorem hpa9z_flat (f1 : cs.all Ex.flat = true) : ∀ o, (o, true) ∈ hpa9z cs n c j lo hi t s ex → FlatO o := by
  intro o ho
  simp [hpa9z] at ho
  rcases ho with rfl | rfl
  · exact fun x hx => List.all_eq_true.1 f1 x hx
  · exact fun x hx => List.all_eq_true.1 (show [i lo, i hi].all Ex.flat = true by rfl) x hx
theorem cda9z_ok (_ : oka9z n = true) : ∀ k, cda9z n k = (ansa9z k).take (cda9z n k).length := fun _ => rfl
theorem orda9z {kk : Nat} (hkk : kk = 3) (f1 : cs.all Ex.flat = true) (h : oka9z n = true) : Orders (selfA (qS noW)) Try.prog 2 OK9 kk (fun m => m < 2 ^ OK9.size ∧ GoodY OK9 (bitsL OK9.size m)) (fun m => absT (tmL 76 ((sa9z cs n c j lo hi t s ex).live (bitsL OK9.size m)))) (fun m => heapL ((sa9z cs n c j lo hi t s ex).hp (bitsL OK9.size m))) (2 ^ OK9.size - 1) := by
  subst hkk
  exact sym_of2 (fixa9z cs n c j lo hi t s ex) (obsa9z cs n c j lo hi t s ex) (cda9z_ok h) (by kernel_rfl) (by kernel_rfl) (by kernel_rfl) (by kernel_rfl) (by kernel_rfl) (hpa9z_flat (n := n) (c := c) (j := j) (lo := lo) (hi := hi) (t := t) (s := s) (ex := ex) f1)
    (fun q hq => by
      simp only [sa9z, List.mem_cons, List.not_mem_nil, or_false] at hq
      rcases hq with rfl | rfl | rfl
      · exact ⟨fun x hx => List.all_eq_true.1 (by rfl) x hx, fun x hx => List.all_eq_true.1 (by rfl) x hx⟩
      · exact ⟨fun x hx => List.all_eq_true.1 (by rfl) x hx, fun x hx => List.all_eq_true.1 (by rfl) x hx⟩
      · exact ⟨fun x hx => List.all_eq_true.1 (by rfl) x hx, fun x hx => List.all_eq_true.1 (by rfl) x hx⟩)
    (fun _ hq => absurd hq List.not_mem_nil) (by kernel_rfl)
end
section
def tma9z (cs : List Value) (n c : Nat) (j lo hi : Int) (t s : Nat) (ex : Bool) : TM := tmL 76 ((sa9z cs n c j lo hi t s ex).live (List.replicate 13 true))
def ha9z (cs : List Value) (n c : Nat) (j lo hi : Int) (t s : Nat) (ex : Bool) : CH := heapL ((sa9z cs n c j lo hi t s ex).hp (List.replicate 13 true))
theorem enda9z : bitsL OK9.size (2 ^ OK9.size - 1) = List.replicate 13 true := by kernel_rfl
theorem pada9z (cs : List Value) (n c : Nat) (j lo hi : Int) (t s : Nat) (ex : Bool) : heapL ((sa9z cs n c j lo hi t s ex).hp (bitsL OK9.size 0)) = heapL ((sa9z cs n c j lo hi t s ex).hp0.map (·.1) ++ List.replicate 3 .dead) := by kernel_rfl
def ina9z (_cs : List Value) (n c : Nat) (j _lo _hi : Int) (_t _s : Nat) (_ex : Bool) : List (Nat × Value) := [(0, sl 1 0 n c), (4, i j), (5, pt 2 0), (6, i 0), (3, .slice none 0 0)]
theorem zeroa9z (cs : List Value) (n c : Nat) (j lo hi : Int) (t s : Nat) (ex : Bool) : tmL 76 ((sa9z cs n c j lo hi t s ex).live (bitsL OK9.size 0)) = tmL 76 (ina9z cs n c j lo hi t s ex) := by kernel_rfl
variable {cs : List Value} {n c : Nat} {j lo hi : Int} {t s : Nat} {ex : Bool}
theorem snda9z (f1 : cs.all Ex.flat = true) (h : oka9z n = true) (ro : Option Nat) {tm0 : Array Value} {H0 : CH} (hk : H0.length = 3) (hst : Restate 3 tm0 H0 (absT (tmL 76 (ina9z cs n c j lo hi t s ex))) (heapL ((sa9z cs n c j lo hi t s ex).hp0.map (·.1)))) :
    Sound Try.prog 2 (.code (.region 9 OK9 true) ro tm0 H0 []) (.ex .normal (absT (tma9z cs n c j lo hi t s ex)) (ha9z cs n c j lo hi t s ex) []) := by
  have ho := orda9z (c := c) (j := j) (lo := lo) (hi := hi) (t := t) (s := s) (ex := ex) hk f1 h
  have hp := pada9z cs n c j lo hi t s ex
  have hz := zeroa9z cs n c j lo hi t s ex
  have h0 := goodY_zero OK9
  unfold tma9z ha9z
  rw [← enda9z]
  rw [← hz] at hst
  generalize sa9z cs n c j lo hi t s ex = s at *
  rw [← hk] at hst
  exact orders_sound2 (tmS := fun m => absT (tmL 76 (s.live (bitsL OK9.size m)))) (HS := fun m => heapL (s.hp (bitsL OK9.size m))) (mF := 2 ^ OK9.size - 1) (qS_selfSound noW_sound) mixU ho (by rw [hk]; decide) h0 hp hst ro
end
section
noncomputable def La9z (cs : List Value) (n c : Nat) (j lo hi : Int) (t s : Nat) (ex : Bool) (L : LTab) : LTab := regE L 42 9 76 3 OK9 (ina9z cs n c j lo hi t s ex) (sa9z cs n c j lo hi t s ex).hp0 (.br (oka9z n) (.leaf (.ex .normal (tma9z cs n c j lo hi t s ex) (ha9z cs n c j lo hi t s ex) [])) .fail)
variable {cs : List Value} {n c : Nat} {j lo hi : Int} {t s : Nat} {ex : Bool}
theorem lsa9z {L : LTab} (hL : LSound Try.prog 2 L) (f1 : cs.all Ex.flat = true) : LSound Try.prog 2 (La9z cs n c j lo hi t s ex L) := by
  refine LSound.region hL (by kernel_rfl) (hpa9z_flat (n := n) (c := c) (j := j) (lo := lo) (hi := hi) (t := t) (s := s) (ex := ex) f1) fun r hr ro tm0 H0 hk hst => ?_
  cases h : oka9z n with
  | false => rw [h] at hr; cases hr
  | true =>
    rw [h] at hr
    cases hr
    exact snda9z (n := n) (c := c) (j := j) (lo := lo) (hi := hi) (t := t) (s := s) (ex := ex) f1 h ro hk hst
end
end Go.Proofs.Yteemponkignnhaa.Ways
set_option maxRecDepth 10000
noncomputable section
namespace Go.Proofs.Yteemponkignnhaa.Ways
open Go Go.Ex Go.RowKit Go.Turn
section
def hpa9f (cs st : List Value) (_n _c _l : Nat) (_j lo hi : Int) (t s : Nat) (ex : Bool) : List (CO × Bool) := [(.dead, false), (.cells cs t s ex, true), (.cells st 126 2 false, true), (.cells [i lo, i hi] 126 1 true, true)]
def sa9f (cs st : List Value) (n c l : Nat) (j lo hi : Int) (t s : Nat) (ex : Bool) : SymS where
  live0 := [(0, sl 1 0 n c), (4, i j), (5, pt 3 0), (6, i 0)]
  S := [(63, 0, sl 4 0 0 0), (64, 1, sl 2 0 l l), (65, 2, i 0), (66, 3, sl 2 0 0 l), (67, 4, sl 4 0 0 0), (68, 5, ag [i lo, i hi]), (69, 6, sl 5 0 1 1), (70, 7, sl 6 0 1 1), (71, 8, sl 2 0 l l), (72, 9, i 0), (73, 10, sl 2 (0 + 0 * 2) (l - 0) (l - 0)), (74, 11, sl 7 0 (1 + (l - 0)) (1 + (l - 0)))]
  S2 := [(3, 12, sl 2 0 l l, sl 7 0 (1 + (l - 0)) (1 + (l - 0)))]
  hp0 := hpa9f cs st n c l j lo hi t s ex
  A := [(0, .cells [] 126 2 true, 0, .cells [] 126 2 true), (6, .cells [i lo, i hi] 126 2 true, 6, .cells [i lo, i hi] 126 2 true), (7, .cells [i lo, i hi] 126 2 false, 11, .dead), (11, .cells ([i lo, i hi] ++ X7 st 0 l) 126 2 false, 11, .cells ([i lo, i hi] ++ X7 st 0 l) 126 2 false)]
def cda9f (st : List Value) (l : Nat) (lo hi : Int) (k : Nat) : List Bool := match k with
  | 3 => [slN 0 l]
  | 10 => [slE 0 l]
  | 11 => [ap3 0 l st [i lo, i hi]]
  | _ => []
end
def rhoa9f (k : Nat) : List Nat := match k with
  | 0 => (List.range 8).set 4 8
  | 6 => (List.range 8).set 5 8
  | 7 => (List.range 8).set 6 8
  | 11 => (List.range 8).set 7 8
  | _ => List.range 8
def lena9f (k : Nat) : Nat := cond (Nat.beq k 0 || (Nat.beq k 6 || (Nat.beq k 7 || (Nat.beq k 11)))) 9 8
def ansa9f (k : Nat) : List Bool := match k with
  | 3 => [true]
  | 10 => [true]
  | 11 => [true]
  | _ => []
section
theorem fixa9f (cs st : List Value) (n c l : Nat) (j lo hi : Int) (t s : Nat) (ex : Bool) : ∀ B : List Bool, B.length = OK9.size → (List.range OK9.size).map (fun k => outV noW Try.prog 2 CKf 42 OK9 76 (sa9f cs st n c l j lo hi t s ex) (forceN OK9.size (pre2 OK9) k B) k) = (List.range OK9.size).map fun k => (outV noW Try.prog 2 CKf 42 OK9 76 (sa9f cs st n c l j lo hi t s ex) (forceN OK9.size (pre2 OK9) k B) k).fix
  | [x0, x1, x2, x3, x4, x5, x6, x7, x8, x9, x10, x11, x12], _ => by kernel_rfl
theorem obsa9f (cs st : List Value) (n c l : Nat) (j lo hi : Int) (t s : Nat) (ex : Bool) : ∀ B : List Bool, B.length = OK9.size → (List.range OK9.size).map (fun k => obsV noW Try.prog 2 CKf 42 OK9 76 (sa9f cs st n c l j lo hi t s ex) rhoa9f ansa9f (forceN OK9.size (pre2 OK9) k B) k) = (List.range OK9.size).map fun k => expY 76 (sa9f cs st n c l j lo hi t s ex) rhoa9f (cda9f st l lo hi) lena9f (forceN OK9.size (pre2 OK9) k B) k
  | [x0, x1, x2, x3, x4, x5, x6, x7, x8, x9, x10, x11, x12], _ => by kernel_rfl
def oka9f (st : List Value) (l : Nat) (lo hi : Int) : Bool := slN 0 l && (slE 0 l && (ap3 0 l st [i lo, i hi]))
end
section
variable {cs st : List Value} {n c l : Nat} {j lo hi : Int} {t s : Nat} {ex : Bool}
theorem hpa9f_flat (f1 : cs.all Ex.flat = true) (f2 : st.all Ex.flat = true) : ∀ o, (o, true) ∈ hpa9f cs st n c l j lo hi t s ex → FlatO o := by
  intro o ho
  simp [hpa9f] at ho
  rcases ho with rfl | rfl | rfl
  · exact fun x hx => List.all_eq_true.1 f1 x hx
  · exact fun x hx => List.all_eq_true.1 f2 x hx
  · exact fun x hx => List.all_eq_true.1 (show [i lo, i hi].all Ex.flat = true by rfl) x hx
theorem cda9f_ok (h : oka9f st l lo hi = true) : ∀ k, cda9f st l lo hi k = (ansa9f k).take (cda9f st l lo hi k).length := by
  unfold oka9f at h
  rw [Bool.and_eq_true, Bool.and_eq_true] at h
  obtain ⟨g3, g10, g11⟩ := h
  intro k
  unfold cda9f ansa9f
  split
  · rw [g3]; rfl
  · rw [g10]; rfl
  · rw [g11]; rfl
  · rfl
theorem orda9f {kk : Nat} (hkk : kk = 4) (f1 : cs.all Ex.flat = true) (f2 : st.all Ex.flat = true) (h : oka9f st l lo hi = true) : Orders (selfA (qS noW)) Try.prog 2 OK9 kk (fun m => m < 2 ^ OK9.size ∧ GoodY OK9 (bitsL OK9.size m)) (fun m => absT (tmL 76 ((sa9f cs st n c l j lo hi t s ex).live (bitsL OK9.size m)))) (fun m => heapL ((sa9f cs st n c l j lo hi t s ex).hp (bitsL OK9.size m))) (2 ^ OK9.size - 1) := by
  subst hkk
  exact sym_of2 (fixa9f cs st n c l j lo hi t s ex) (obsa9f cs st n c l j lo hi t s ex) (cda9f_ok h) (by kernel_rfl) (by kernel_rfl) (by kernel_rfl) (by kernel_rfl) (by kernel_rfl) (hpa9f_flat (n := n) (c := c) (l := l) (j := j) (lo := lo) (hi := hi) (t := t) (s := s) (ex := ex) f1 f2)
    (fun q hq => by
      simp only [sa9f, List.mem_cons, List.not_mem_nil, or_false] at hq
      rcases hq with rfl | rfl | rfl | rfl
      · exact ⟨fun x hx => List.all_eq_true.1 (by rfl) x hx, fun x hx => List.all_eq_true.1 (by rfl) x hx⟩
      · exact ⟨fun x hx => List.all_eq_true.1 (by rfl) x hx, fun x hx => List.all_eq_true.1 (by rfl) x hx⟩
      · exact ⟨fun x hx => List.all_eq_true.1 (by rfl) x hx, trivial⟩
      · exact ⟨fun x hx => List.all_eq_true.1 (app_flat rfl (x7_flat f2)) x hx, fun x hx => List.all_eq_true.1 (app_flat rfl (x7_flat f2)) x hx⟩)
    (fun _ hq => absurd hq List.not_mem_nil) (by kernel_rfl)
end
section
def tma9f (cs st : List Value) (n c l : Nat) (j lo hi : Int) (t s : Nat) (ex : Bool) : TM := tmL 76 ((sa9f cs st n c l j lo hi t s ex).live (List.replicate 13 true))
def ha9f (cs st : List Value) (n c l : Nat) (j lo hi : Int) (t s : Nat) (ex : Bool) : CH := heapL ((sa9f cs st n c l j lo hi t s ex).hp (List.replicate 13 true))
theorem enda9f : bitsL OK9.size (2 ^ OK9.size - 1) = List.replicate 13 true := by kernel_rfl
theorem pada9f (cs st : List Value) (n c l : Nat) (j lo hi : Int) (t s : Nat) (ex : Bool) : heapL ((sa9f cs st n c l j lo hi t s ex).hp (bitsL OK9.size 0)) = heapL ((sa9f cs st n c l j lo hi t s ex).hp0.map (·.1) ++ List.replicate 4 .dead) := by kernel_rfl
def ina9f (_cs _st : List Value) (n c l : Nat) (j _lo _hi : Int) (_t _s : Nat) (_ex : Bool) : List (Nat × Value) := [(0, sl 1 0 n c), (4, i j), (5, pt 3 0), (6, i 0), (3, sl 2 0 l l)]
theorem zeroa9f (cs st : List Value) (n c l : Nat) (j lo hi : Int) (t s : Nat) (ex : Bool) : tmL 76 ((sa9f cs st n c l j lo hi t s ex).live (bitsL OK9.size 0)) = tmL 76 (ina9f cs st n c l j lo hi t s ex) := by kernel_rfl
variable {cs st : List Value} {n c l : Nat} {j lo hi : Int} {t s : Nat} {ex : Bool}
theorem snda9f (f1 : cs.all Ex.flat = true) (f2 : st.all Ex.flat = true) (h : oka9f st l lo hi = true) (ro : Option Nat) {tm0 : Array Value} {H0 : CH} (hk : H0.length = 4) (hst : Restate 4 tm0 H0 (absT (tmL 76 (ina9f cs st n c l j lo hi t s ex))) (heapL ((sa9f cs st n c l j lo hi t s ex).hp0.map (·.1)))) :
    Sound Try.prog 2 (.code (.region 9 OK9 true) ro tm0 H0 []) (.ex .normal (absT (tma9f cs st n c l j lo hi t s ex)) (ha9f cs st n c l j lo hi t s ex) []) := by
  have ho := orda9f (n := n) (c := c) (j := j) (t := t) (s := s) (ex := ex) hk f1 f2 h
  have hp := pada9f cs st n c l j lo hi t s ex
  have hz := zeroa9f cs st n c l j lo hi t s ex
  have h0 := goodY_zero OK9
  unfold tma9f ha9f
  rw [← enda9f]
  rw [← hz] at hst
  generalize sa9f cs st n c l j lo hi t s ex = s at *
  rw [← hk] at hst
  exact orders_sound2 (tmS := fun m => absT (tmL 76 (s.live (bitsL OK9.size m)))) (HS := fun m => heapL (s.hp (bitsL OK9.size m))) (mF := 2 ^ OK9.size - 1) (qS_selfSound noW_sound) mixU ho (by rw [hk]; decide) h0 hp hst ro
end
section
noncomputable def La9f (cs st : List Value) (n c l : Nat) (j lo hi : Int) (t s : Nat) (ex : Bool) (L : LTab) : LTab := regE L 42 9 76 4 OK9 (ina9f cs st n c l j lo hi t s ex) (sa9f cs st n c l j lo hi t s ex).hp0 (.br (oka9f st l lo hi) (.leaf (.ex .normal (tma9f cs st n c l j lo hi t s ex) (ha9f cs st n c l j lo hi t s ex) [])) .fail)
variable {cs st : List Value} {n c l : Nat} {j lo hi : Int} {t s : Nat} {ex : Bool}
theorem lsa9f {L : LTab} (hL : LSound Try.prog 2 L) (f1 : cs.all Ex.flat = true) (f2 : st.all Ex.flat = true) : LSound Try.prog 2 (La9f cs st n c l j lo hi t s ex L) := by
  refine LSound.region hL (by kernel_rfl) (hpa9f_flat (n := n) (c := c) (l := l) (j := j) (lo := lo) (hi := hi) (t := t) (s := s) (ex := ex) f1 f2) fun r hr ro tm0 H0 hk hst => ?_
  cases h : oka9f st l lo hi with
  | false => rw [h] at hr; cases hr
  | true =>
    rw [h] at hr
    cases hr
    exact snda9f (n := n) (c := c) (l := l) (j := j) (lo := lo) (hi := hi) (t := t) (s := s) (ex := ex) f1 f2 h ro hk hst
end
end Go.Proofs.Yteemponkignnhaa.Ways
set_option maxRecDepth 10000
noncomputable section
namespace Go.Proofs.Yteemponkignnhaa.Ways
open Go Go.Ex Go.RowKit Go.Turn
section
def hpa9m (cs st : List Value) (_n _c _l _u : Nat) (_j lo hi : Int) (t s : Nat) (ex : Bool) : List (CO × Bool) := [(.dead, false), (.cells cs t s ex, true), (.cells st 126 2 false, true), (.cells [i lo, i hi] 126 1 true, true)]
def sa9m (cs st : List Value) (n c l u : Nat) (j lo hi : Int) (t s : Nat) (ex : Bool) : SymS where
  live0 := [(0, sl 1 0 n c), (4, i j), (5, pt 3 0), (6, i u)]
  S := [(63, 0, sl 4 0 0 0), (64, 1, sl 2 0 l l), (65, 2, i u), (66, 3, sl 2 0 u l), (67, 4, sl 5 0 u u), (68, 5, ag [i lo, i hi]), (69, 6, sl 6 0 1 1), (70, 7, sl 7 0 (u + 1) (u + 1)), (71, 8, sl 2 0 l l), (72, 9, i u), (73, 10, sl 2 (0 + u * 2) (l - u) (l - u)), (74, 11, sl 8 0 (u + 1 + (l - u)) (u + 1 + (l - u)))]
  S2 := [(3, 12, sl 2 0 l l, sl 8 0 (u + 1 + (l - u)) (u + 1 + (l - u)))]
  hp0 := hpa9m cs st n c l u j lo hi t s ex
  A := [(0, .cells [] 126 2 true, 0, .cells [] 126 2 true), (4, .cells (X6 st u) 126 2 false, 7, .dead), (6, .cells [i lo, i hi] 126 2 true, 6, .cells [i lo, i hi] 126 2 true), (7, .cells (X6 st u ++ [i lo, i hi]) 126 2 false, 11, .dead), (11, .cells (X6 st u ++ [i lo, i hi] ++ X7 st u l) 126 2 false, 11, .cells (X6 st u ++ [i lo, i hi] ++ X7 st u l) 126 2 false)]
def cda9m (st : List Value) (l u : Nat) (lo hi : Int) (k : Nat) : List Bool := match k with
  | 3 => [slN u l]
  | 4 => [apN u l st]
  | 7 => [full2 u (X6 st u)]
  | 10 => [slE u l]
  | 11 => [ap3 u l st (X6 st u ++ [i lo, i hi])]
  | _ => []
end
def rhoa9m (k : Nat) : List Nat := match k with
  | 0 => (List.range 9).set 4 9
  | 4 => (List.range 9).set 5 9
  | 6 => (List.range 9).set 6 9
  | 7 => (List.range 9).set 7 9
  | 11 => (List.range 9).set 8 9
  | _ => List.range 9
def lena9m (k : Nat) : Nat := cond (Nat.beq k 0 || (Nat.beq k 4 || (Nat.beq k 6 || (Nat.beq k 7 || (Nat.beq k 11))))) 10 9
def ansa9m (k : Nat) : List Bool := match k with
  | 3 => [true]
  | 4 => [true]
  | 7 => [true]
  | 10 => [true]
  | 11 => [true]
  | _ => []
section
theorem fixa9m (cs st : List Value) (n c l u : Nat) (j lo hi : Int) (t s : Nat) (ex : Bool) : ∀ B : List Bool, B.length = OK9.size → (List.range OK9.size).map (fun k => outV noW Try.prog 2 CKm 42 OK9 76 (sa9m cs st n c l u j lo hi t s ex) (forceN OK9.size (pre2 OK9) k B) k) = (List.range OK9.size).map fun k => (outV noW Try.prog 2 CKm 42 OK9 76 (sa9m cs st n c l u j lo hi t s ex) (forceN OK9.size (pre2 OK9) k B) k).fix
  | [x0, x1, x2, x3, x4, x5, x6, x7, x8, x9, x10, x11, x12], _ => by kernel_rfl
theorem obsa9m (cs st : List Value) (n c l u : Nat) (j lo hi : Int) (t s : Nat) (ex : Bool) : ∀ B : List Bool, B.length = OK9.size → (List.range OK9.size).map (fun k => obsV noW Try.prog 2 CKm 42 OK9 76 (sa9m cs st n c l u j lo hi t s ex) rhoa9m ansa9m (forceN OK9.size (pre2 OK9) k B) k) = (List.range OK9.size).map fun k => expY 76 (sa9m cs st n c l u j lo hi t s ex) rhoa9m (cda9m st l u lo hi) lena9m (forceN OK9.size (pre2 OK9) k B) k
  | [x0, x1, x2, x3, x4, x5, x6, x7, x8, x9, x10, x11, x12], _ => by kernel_rfl
def oka9m (st : List Value) (l u : Nat) (lo hi : Int) : Bool := slN u l && (apN u l st && (full2 u (X6 st u) && (slE u l && (ap3 u l st (X6 st u ++ [i lo, i hi])))))
end
section
variable {cs st : List Value} {n c l u : Nat} {j lo hi : Int} {t s : Nat} {ex : Bool}
theorem hpa9m_flat (f1 : cs.all Ex.flat = true) (f2 : st.all Ex.flat = true) : ∀ o, (o, true) ∈ hpa9m cs st n c l u j lo hi t s ex → FlatO o := by
  intro o ho
  simp [hpa9m] at ho
  rcases ho with rfl | rfl | rfl
  · exact fun x hx => List.all_eq_true.1 f1 x hx
  · exact fun x hx => List.all_eq_true.1 f2 x hx
  · exact fun x hx => List.all_eq_true.1 (show [i lo, i hi].all Ex.flat = true by rfl) x hx
theorem cda9m_ok (h : oka9m st l u lo hi = true) : ∀ k, cda9m st l u lo hi k = (ansa9m k).take (cda9m st l u lo hi k).length := by
  unfold oka9m at h
  rw [Bool.and_eq_true, Bool.and_eq_true, Bool.and_eq_true, Bool.and_eq_true] at h
  obtain ⟨g3, g4, g7, g10, g11⟩ := h
  intro k
  unfold cda9m ansa9m
  split
  · rw [g3]; rfl
  · rw [g4]; rfl
  · rw [g7]; rfl
  · rw [g10]; rfl
  · rw [g11]; rfl
  · rfl
theorem orda9m {kk : Nat} (hkk : kk = 4) (f1 : cs.all Ex.flat = true) (f2 : st.all Ex.flat = true) (h : oka9m st l u lo hi = true) : Orders (selfA (qS noW)) Try.prog 2 OK9 kk (fun m => m < 2 ^ OK9.size ∧ GoodY OK9 (bitsL OK9.size m)) (fun m => absT (tmL 76 ((sa9m cs st n c l u j lo hi t s ex).live (bitsL OK9.size m)))) (fun m => heapL ((sa9m cs st n c l u j lo hi t s ex).hp (bitsL OK9.size m))) (2 ^ OK9.size - 1) := by
  subst hkk
  exact sym_of2 (fixa9m cs st n c l u j lo hi t s ex) (obsa9m cs st n c l u j lo hi t s ex) (cda9m_ok h) (by kernel_rfl) (by kernel_rfl) (by kernel_rfl) (by kernel_rfl) (by kernel_rfl) (hpa9m_flat (n := n) (c := c) (l := l) (u := u) (j := j) (lo := lo) (hi := hi) (t := t) (s := s) (ex := ex) f1 f2)
    (fun q hq => by
      simp only [sa9m, List.mem_cons, List.not_mem_nil, or_false] at hq
      rcases hq with rfl | rfl | rfl | rfl | rfl
      · exact ⟨fun x hx => List.all_eq_true.1 (by rfl) x hx, fun x hx => List.all_eq_true.1 (by rfl) x hx⟩
      · exact ⟨fun x hx => List.all_eq_true.1 (x6_flat f2) x hx, trivial⟩
      · exact ⟨fun x hx => List.all_eq_true.1 (by rfl) x hx, fun x hx => List.all_eq_true.1 (by rfl) x hx⟩
      · exact ⟨fun x hx => List.all_eq_true.1 (app_flat (x6_flat f2) rfl) x hx, trivial⟩
      · exact ⟨fun x hx => List.all_eq_true.1 (app_flat (app_flat (x6_flat f2) rfl) (x7_flat f2)) x hx, fun x hx => List.all_eq_true.1 (app_flat (app_flat (x6_flat f2) rfl) (x7_flat f2)) x hx⟩)
    (fun _ hq => absurd hq List.not_mem_nil) (by kernel_rfl)
end
section
def tma9m (cs st : List Value) (n c l u : Nat) (j lo hi : Int) (t s : Nat) (ex : Bool) : TM := tmL 76 ((sa9m cs st n c l u j lo hi t s ex).live (List.replicate 13 true))
def ha9m (cs st : List Value) (n c l u : Nat) (j lo hi : Int) (t s : Nat) (ex : Bool) : CH := heapL ((sa9m cs st n c l u j lo hi t s ex).hp (List.replicate 13 true))
theorem enda9m : bitsL OK9.size (2 ^ OK9.size - 1) = List.replicate 13 true := by kernel_rfl
theorem pada9m (cs st : List Value) (n c l u : Nat) (j lo hi : Int) (t s : Nat) (ex : Bool) : heapL ((sa9m cs st n c l u j lo hi t s ex).hp (bitsL OK9.size 0)) = heapL ((sa9m cs st n c l u j lo hi t s ex).hp0.map (·.1) ++ List.replicate 5 .dead) := by kernel_rfl
def ina9m (_cs _st : List Value) (n c l u : Nat) (j _lo _hi : Int) (_t _s : Nat) (_ex : Bool) : List (Nat × Value) := [(0, sl 1 0 n c), (4, i j), (5, pt 3 0), (6, i u), (3, sl 2 0 l l)]
theorem zeroa9m (cs st : List Value) (n c l u : Nat) (j lo hi : Int) (t s : Nat) (ex : Bool) : tmL 76 ((sa9m cs st n c l u j lo hi t s ex).live (bitsL OK9.size 0)) = tmL 76 (ina9m cs st n c l u j lo hi t s ex) := by kernel_rfl
variable {cs st : List Value} {n c l u : Nat} {j lo hi : Int} {t s : Nat} {ex : Bool}
theorem snda9m (f1 : cs.all Ex.flat = true) (f2 : st.all Ex.flat = true) (h : oka9m st l u lo hi = true) (ro : Option Nat) {tm0 : Array Value} {H0 : CH} (hk : H0.length = 4) (hst : Restate 4 tm0 H0 (absT (tmL 76 (ina9m cs st n c l u j lo hi t s ex))) (heapL ((sa9m cs st n c l u j lo hi t s ex).hp0.map (·.1)))) :
    Sound Try.prog 2 (.code (.region 9 OK9 true) ro tm0 H0 []) (.ex .normal (absT (tma9m cs st n c l u j lo hi t s ex)) (ha9m cs st n c l u j lo hi t s ex) []) := by
  have ho := orda9m (n := n) (c := c) (j := j) (t := t) (s := s) (ex := ex) hk f1 f2 h
  have hp := pada9m cs st n c l u j lo hi t s ex
  have hz := zeroa9m cs st n c l u j lo hi t s ex
  have h0 := goodY_zero OK9
  unfold tma9m ha9m
  rw [← enda9m]
  rw [← hz] at hst
  generalize sa9m cs st n c l u j lo hi t s ex = s at *
  rw [← hk] at hst
  exact orders_sound2 (tmS := fun m => absT (tmL 76 (s.live (bitsL OK9.size m)))) (HS := fun m => heapL (s.hp (bitsL OK9.size m))) (mF := 2 ^ OK9.size - 1) (qS_selfSound noW_sound) mixU ho (by rw [hk]; decide) h0 hp hst ro
end
section
noncomputable def La9m (cs st : List Value) (n c l u : Nat) (j lo hi : Int) (t s : Nat) (ex : Bool) (L : LTab) : LTab := regE L 42 9 76 4 OK9 (ina9m cs st n c l u j lo hi t s ex) (sa9m cs st n c l u j lo hi t s ex).hp0 (.br (oka9m st l u lo hi) (.leaf (.ex .normal (tma9m cs st n c l u j lo hi t s ex) (ha9m cs st n c l u j lo hi t s ex) [])) .fail)
variable {cs st : List Value} {n c l u : Nat} {j lo hi : Int} {t s : Nat} {ex : Bool}
theorem lsa9m {L : LTab} (hL : LSound Try.prog 2 L) (f1 : cs.all Ex.flat = true) (f2 : st.all Ex.flat = true) : LSound Try.prog 2 (La9m cs st n c l u j lo hi t s ex L) := by
  refine LSound.region hL (by kernel_rfl) (hpa9m_flat (n := n) (c := c) (l := l) (u := u) (j := j) (lo := lo) (hi := hi) (t := t) (s := s) (ex := ex) f1 f2) fun r hr ro tm0 H0 hk hst => ?_
  cases h : oka9m st l u lo hi with
  | false => rw [h] at hr; cases hr
  | true =>
    rw [h] at hr
    cases hr
    exact snda9m (n := n) (c := c) (l := l) (u := u) (j := j) (lo := lo) (hi := hi) (t := t) (s := s) (ex := ex) f1 f2 h ro hk hst
end
end Go.Proofs.Yteemponkignnhaa.Ways
set_option maxRecDepth 10000
noncomputable section
namespace Go.Proofs.Yteemponkignnhaa.Ways
open Go Go.Ex Go.RowKit Go.Turn
section
def hpa9e (cs st : List Value) (_n _c _l : Nat) (_j lo hi : Int) (t s : Nat) (ex : Bool) : List (CO × Bool) := [(.dead, false), (.cells cs t s ex, true), (.cells st 126 2 false, true), (.cells [i lo, i hi] 126 1 true, true)]
def sa9e (cs st : List Value) (n c l : Nat) (j lo hi : Int) (t s : Nat) (ex : Bool) : SymS where
  live0 := [(0, sl 1 0 n c), (4, i j), (5, pt 3 0), (6, i l)]
  S := [(63, 0, sl 4 0 0 0), (64, 1, sl 2 0 l l), (65, 2, i l), (66, 3, sl 2 0 l l), (67, 4, sl 5 0 l l), (68, 5, ag [i lo, i hi]), (69, 6, sl 6 0 1 1), (70, 7, sl 7 0 (l + 1) (l + 1)), (71, 8, sl 2 0 l l), (72, 9, i l), (73, 10, sl 2 (0 + l * 2) (l - l) (l - l)), (74, 11, sl 7 0 (l + 1) (l + 1))]
  S2 := [(3, 12, sl 2 0 l l, sl 7 0 (l + 1) (l + 1))]
  hp0 := hpa9e cs st n c l j lo hi t s ex
  A := [(0, .cells [] 126 2 true, 0, .cells [] 126 2 true), (4, .cells (X6 st l) 126 2 false, 7, .dead), (6, .cells [i lo, i hi] 126 2 true, 6, .cells [i lo, i hi] 126 2 true), (7, .cells (X6 st l ++ [i lo, i hi]) 126 2 false, 7, .cells (X6 st l ++ [i lo, i hi]) 126 2 false)]
def cda9e (st : List Value) (l : Nat) (k : Nat) : List Bool := match k with
  | 3 => [slN l l]
  | 4 => [apN l l st]
  | 7 => [full2 l (X6 st l)]
  | 10 => [slE l l]
  | 11 => [nopE l]
  | _ => []
end
def rhoa9e (k : Nat) : List Nat := match k with
  | 0 => (List.range 8).set 4 8
  | 4 => (List.range 8).set 5 8
  | 6 => (List.range 8).set 6 8
  | 7 => (List.range 8).set 7 8
  | _ => List.range 8
def lena9e (k : Nat) : Nat := cond (Nat.beq k 0 || (Nat.beq k 4 || (Nat.beq k 6 || (Nat.beq k 7)))) 9 8
def ansa9e (k : Nat) : List Bool := match k with
  | 3 => [true]
  | 4 => [true]
  | 7 => [true]
  | 10 => [true]
  | 11 => [true]
  | _ => []
section
theorem fixa9e (cs st : List Value) (n c l : Nat) (j lo hi : Int) (t s : Nat) (ex : Bool) : ∀ B : List Bool, B.length = OK9.size → (List.range OK9.size).map (fun k => outV noW Try.prog 2 CKe 42 OK9 76 (sa9e cs st n c l j lo hi t s ex) (forceN OK9.size (pre2 OK9) k B) k) = (List.range OK9.size).map fun k => (outV noW Try.prog 2 CKe 42 OK9 76 (sa9e cs st n c l j lo hi t s ex) (forceN OK9.size (pre2 OK9) k B) k).fix
  | [x0, x1, x2, x3, x4, x5, x6, x7, x8, x9, x10, x11, x12], _ => by kernel_rfl
theorem obsa9e (cs st : List Value) (n c l : Nat) (j lo hi : Int) (t s : Nat) (ex : Bool) : ∀ B : List Bool, B.length = OK9.size → (List.range OK9.size).map (fun k => obsV noW Try.prog 2 CKe 42 OK9 76 (sa9e cs st n c l j lo hi t s ex) rhoa9e ansa9e (forceN OK9.size (pre2 OK9) k B) k) = (List.range OK9.size).map fun k => expY 76 (sa9e cs st n c l j lo hi t s ex) rhoa9e (cda9e st l) lena9e (forceN OK9.size (pre2 OK9) k B) k
  | [x0, x1, x2, x3, x4, x5, x6, x7, x8, x9, x10, x11, x12], _ => by kernel_rfl
def oka9e (st : List Value) (l : Nat) : Bool := slN l l && (apN l l st && (full2 l (X6 st l) && (slE l l && (nopE l))))
end
section
variable {cs st : List Value} {n c l : Nat} {j lo hi : Int} {t s : Nat} {ex : Bool}
theorem hpa9e_flat (f1 : cs.all Ex.flat = true) (f2 : st.all Ex.flat = true) : ∀ o, (o, true) ∈ hpa9e cs st n c l j lo hi t s ex → FlatO o := by
  intro o ho
  simp [hpa9e] at ho
  rcases ho with rfl | rfl | rfl
  · exact fun x hx => List.all_eq_true.1 f1 x hx
  · exact fun x hx => List.all_eq_true.1 f2 x hx
  · exact fun x hx => List.all_eq_true.1 (show [i lo, i hi].all Ex.flat = true by rfl) x hx
theorem cda9e_ok (h : oka9e st l = true) : ∀ k, cda9e st l k = (ansa9e k).take (cda9e st l k).length := by
  unfold oka9e at h
  rw [Bool.and_eq_true, Bool.and_eq_true, Bool.and_eq_true, Bool.and_eq_true] at h
  obtain ⟨g3, g4, g7, g10, g11⟩ := h
  intro k
  unfold cda9e ansa9e
  split
  · rw [g3]; rfl
  · rw [g4]; rfl
  · rw [g7]; rfl
  · rw [g10]; rfl
  · rw [g11]; rfl
  · rfl
theorem orda9e {kk : Nat} (hkk : kk = 4) (f1 : cs.all Ex.flat = true) (f2 : st.all Ex.flat = true) (h : oka9e st l = true) : Orders (selfA (qS noW)) Try.prog 2 OK9 kk (fun m => m < 2 ^ OK9.size ∧ GoodY OK9 (bitsL OK9.size m)) (fun m => absT (tmL 76 ((sa9e cs st n c l j lo hi t s ex).live (bitsL OK9.size m)))) (fun m => heapL ((sa9e cs st n c l j lo hi t s ex).hp (bitsL OK9.size m))) (2 ^ OK9.size - 1) := by
  subst hkk
  exact sym_of2 (fixa9e cs st n c l j lo hi t s ex) (obsa9e cs st n c l j lo hi t s ex) (cda9e_ok h) (by kernel_rfl) (by kernel_rfl) (by kernel_rfl) (by kernel_rfl) (by kernel_rfl) (hpa9e_flat (n := n) (c := c) (l := l) (j := j) (lo := lo) (hi := hi) (t := t) (s := s) (ex := ex) f1 f2)
    (fun q hq => by
      simp only [sa9e, List.mem_cons, List.not_mem_nil, or_false] at hq
      rcases hq with rfl | rfl | rfl | rfl
      · exact ⟨fun x hx => List.all_eq_true.1 (by rfl) x hx, fun x hx => List.all_eq_true.1 (by rfl) x hx⟩
      · exact ⟨fun x hx => List.all_eq_true.1 (x6_flat f2) x hx, trivial⟩
      · exact ⟨fun x hx => List.all_eq_true.1 (by rfl) x hx, fun x hx => List.all_eq_true.1 (by rfl) x hx⟩
      · exact ⟨fun x hx => List.all_eq_true.1 (app_flat (x6_flat f2) rfl) x hx, fun x hx => List.all_eq_true.1 (app_flat (x6_flat f2) rfl) x hx⟩)
    (fun _ hq => absurd hq List.not_mem_nil) (by kernel_rfl)
end
section
def tma9e (cs st : List Value) (n c l : Nat) (j lo hi : Int) (t s : Nat) (ex : Bool) : TM := tmL 76 ((sa9e cs st n c l j lo hi t s ex).live (List.replicate 13 true))
def ha9e (cs st : List Value) (n c l : Nat) (j lo hi : Int) (t s : Nat) (ex : Bool) : CH := heapL ((sa9e cs st n c l j lo hi t s ex).hp (List.replicate 13 true))
theorem enda9e : bitsL OK9.size (2 ^ OK9.size - 1) = List.replicate 13 true := by kernel_rfl
theorem pada9e (cs st : List Value) (n c l : Nat) (j lo hi : Int) (t s : Nat) (ex : Bool) : heapL ((sa9e cs st n c l j lo hi t s ex).hp (bitsL OK9.size 0)) = heapL ((sa9e cs st n c l j lo hi t s ex).hp0.map (·.1) ++ List.replicate 4 .dead) := by kernel_rfl
def ina9e (_cs _st : List Value) (n c l : Nat) (j _lo _hi : Int) (_t _s : Nat) (_ex : Bool) : List (Nat × Value) := [(0, sl 1 0 n c), (4, i j), (5, pt 3 0), (6, i l), (3, sl 2 0 l l)]
theorem zeroa9e (cs st : List Value) (n c l : Nat) (j lo hi : Int) (t s : Nat) (ex : Bool) : tmL 76 ((sa9e cs st n c l j lo hi t s ex).live (bitsL OK9.size 0)) = tmL 76 (ina9e cs st n c l j lo hi t s ex) := by kernel_rfl
variable {cs st : List Value} {n c l : Nat} {j lo hi : Int} {t s : Nat} {ex : Bool}
theorem snda9e (f1 : cs.all Ex.flat = true) (f2 : st.all Ex.flat = true) (h : oka9e st l = true) (ro : Option Nat) {tm0 : Array Value} {H0 : CH} (hk : H0.length = 4) (hst : Restate 4 tm0 H0 (absT (tmL 76 (ina9e cs st n c l j lo hi t s ex))) (heapL ((sa9e cs st n c l j lo hi t s ex).hp0.map (·.1)))) :
    Sound Try.prog 2 (.code (.region 9 OK9 true) ro tm0 H0 []) (.ex .normal (absT (tma9e cs st n c l j lo hi t s ex)) (ha9e cs st n c l j lo hi t s ex) []) := by
  have ho := orda9e (n := n) (c := c) (j := j) (lo := lo) (hi := hi) (t := t) (s := s) (ex := ex) hk f1 f2 h
  have hp := pada9e cs st n c l j lo hi t s ex
  have hz := zeroa9e cs st n c l j lo hi t s ex
  have h0 := goodY_zero OK9
  unfold tma9e ha9e
  rw [← enda9e]
  rw [← hz] at hst
  generalize sa9e cs st n c l j lo hi t s ex = s at *
  rw [← hk] at hst
  exact orders_sound2 (tmS := fun m => absT (tmL 76 (s.live (bitsL OK9.size m)))) (HS := fun m => heapL (s.hp (bitsL OK9.size m))) (mF := 2 ^ OK9.size - 1) (qS_selfSound noW_sound) mixU ho (by rw [hk]; decide) h0 hp hst ro
end
section
noncomputable def La9e (cs st : List Value) (n c l : Nat) (j lo hi : Int) (t s : Nat) (ex : Bool) (L : LTab) : LTab := regE L 42 9 76 4 OK9 (ina9e cs st n c l j lo hi t s ex) (sa9e cs st n c l j lo hi t s ex).hp0 (.br (oka9e st l) (.leaf (.ex .normal (tma9e cs st n c l j lo hi t s ex) (ha9e cs st n c l j lo hi t s ex) [])) .fail)
variable {cs st : List Value} {n c l : Nat} {j lo hi : Int} {t s : Nat} {ex : Bool}
theorem lsa9e {L : LTab} (hL : LSound Try.prog 2 L) (f1 : cs.all Ex.flat = true) (f2 : st.all Ex.flat = true) : LSound Try.prog 2 (La9e cs st n c l j lo hi t s ex L) := by
  refine LSound.region hL (by kernel_rfl) (hpa9e_flat (n := n) (c := c) (l := l) (j := j) (lo := lo) (hi := hi) (t := t) (s := s) (ex := ex) f1 f2) fun r hr ro tm0 H0 hk hst => ?_
  cases h : oka9e st l with
  | false => rw [h] at hr; cases hr
  | true =>
    rw [h] at hr
    cases hr
    exact snda9e (n := n) (c := c) (l := l) (j := j) (lo := lo) (hi := hi) (t := t) (s := s) (ex := ex) f1 f2 h ro hk hst
end
end Go.Proofs.Yteemponkignnhaa.Ways
