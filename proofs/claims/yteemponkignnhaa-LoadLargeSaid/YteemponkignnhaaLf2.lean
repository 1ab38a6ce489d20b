import Derived.Test.YteemponkignnhaaLc3
set_option maxRecDepth 10000
noncomputable section
namespace Go.Proofs.Yteemponkignnhaa.Ways
open Go Go.Ex Go.RowKit Go.Turn
noncomputable def OV5 : Array Oper := regC 5 60 (Try.f36.body.getD .skip)
noncomputable def CVz : Cfg := ⟨T14, no_, on_ [(36, 21), (36, 23), (36, 28), (36, 30)], noL⟩
noncomputable def CVm : Cfg := ⟨T14, no_, on_ [(36, 21), (36, 23), (36, 28), (36, 30), (36, 33), (36, 300033)], noL⟩
def elS (ds : List Value) (j sh : Int) : List Value := [i (wrapF .i64 (pA ds j.toNat + sh)), i (pB ds j.toNat)]
end Go.Proofs.Yteemponkignnhaa.Ways
set_option maxRecDepth 10000
noncomputable section
namespace Go.Proofs.Yteemponkignnhaa.Ways
open Go Go.Ex Go.RowKit Go.Turn
section
def hpJm (ds _out : List Value) (_m _c2 _l : Nat) (_sh _j : Int) (t2 s2 : Nat) (e2 : Bool) : List (CO × Bool) := [(.dead, false), (.dead, false), (.cells ds t2 s2 e2, true), (.dead, false)]
def hiJm (ds out : List Value) (_m _c2 _l : Nat) (_sh _j : Int) (t2 s2 : Nat) (e2 : Bool) : List (CO × Bool) := [(.dead, false), (.dead, false), (.cells ds t2 s2 e2, true), (.dead, false), (.cells out 70 2 false, true)]
def sJm (ds out : List Value) (m c2 l : Nat) (sh j : Int) (t2 s2 : Nat) (e2 : Bool) : SymS where
  live0 := [(1, sl 2 0 m c2), (2, i sh), (8, i j)]
  S := [(18, 0, sl 4 0 l l), (19, 1, sl 2 0 m c2), (20, 2, i j), (21, 3, pt 2 (0 + j.toNat * 2)), (22, 4, pt 2 (0 + j.toNat * 2)), (23, 5, i (pA ds j.toNat)), (24, 6, i sh), (25, 7, i (wrapF .i64 (pA ds j.toNat + sh))), (26, 8, sl 2 0 m c2), (27, 9, i j), (28, 10, pt 2 (0 + j.toNat * 2)), (29, 11, pt 2 (0 + j.toNat * 2 + 1)), (30, 12, i (pB ds j.toNat)), (31, 13, ag (elS ds j sh)), (32, 14, sl 5 0 1 1), (33, 15, sl 6 0 (l + 1) (l + 1))]
  S2 := [(7, 16, sl 4 0 l l, sl 6 0 (l + 1) (l + 1))]
  hp0 := hpJm ds out m c2 l sh j t2 s2 e2
  A := [(99, .cells out 70 2 false, 15, .dead), (14, .cells (elS ds j sh) 70 2 true, 14, .cells (elS ds j sh) 70 2 true), (15, .cells (out ++ elS ds j sh) 70 2 false, 15, .cells (out ++ elS ds j sh) 70 2 false)]
def cdJm (ds out : List Value) (m c2 l : Nat) (j : Int) (k : Nat) : List Bool := match k with
  | 3 => [bnd_ j m c2]
  | 5 => [cA ds j]
  | 10 => [bnd_ j m c2]
  | 12 => [cB2 ds j]
  | 15 => [full2 l out]
  | _ => []
end
def rhoJm (k : Nat) : List Nat := match k with
  | 14 => (List.range 7).set 5 7
  | 15 => (List.range 7).set 6 7
  | _ => List.range 7
def lenJm (k : Nat) : Nat := cond (Nat.beq k 14 || Nat.beq k 15) 8 7
def ansJm (k : Nat) : List Bool := match k with
  | 3 => [true]
  | 5 => [true]
  | 10 => [true]
  | 12 => [true]
  | 15 => [true]
  | _ => []
section
theorem fixJm (ds out : List Value) (m c2 l : Nat) (sh j : Int) (t2 s2 : Nat) (e2 : Bool) : ∀ B : List Bool, B.length = OV5.size → (List.range OV5.size).map (fun k => outV noW Try.prog 3 CVm 36 OV5 36 (sJm ds out m c2 l sh j t2 s2 e2) (forceN OV5.size (pre2 OV5) k B) k) = (List.range OV5.size).map fun k => (outV noW Try.prog 3 CVm 36 OV5 36 (sJm ds out m c2 l sh j t2 s2 e2) (forceN OV5.size (pre2 OV5) k B) k).fix
  | [x0, x1, x2, x3, x4, x5, x6, x7, x8, x9, x10, x11, x12, x13, x14, x15, x16], _ => by kernel_rfl
theorem obsJm (ds out : List Value) (m c2 l : Nat) (sh j : Int) (t2 s2 : Nat) (e2 : Bool) : ∀ B : List Bool, B.length = OV5.size → (List.range OV5.size).map (fun k => obsV noW Try.prog 3 CVm 36 OV5 36 (sJm ds out m c2 l sh j t2 s2 e2) rhoJm ansJm (forceN OV5.size (pre2 OV5) k B) k) = (List.range OV5.size).map fun k => expY 36 (sJm ds out m c2 l sh j t2 s2 e2) rhoJm (cdJm ds out m c2 l j) lenJm (forceN OV5.size (pre2 OV5) k B) k
  | [x0, x1, x2, x3, x4, x5, x6, x7, x8, x9, x10, x11, x12, x13, x14, x15, x16], _ => by kernel_rfl
def okJm (ds out : List Value) (m c2 l : Nat) (j : Int) : Bool := bnd_ j m c2 && (cA ds j && (bnd_ j m c2 && (cB2 ds j && full2 l out)))
end
section
variable {ds out : List Value} {m c2 l : Nat} {sh j : Int} {t2 s2 : Nat} {e2 : Bool}
theorem hpJm_flat (f1 : ds.all Ex.flat = true) : ∀ o, (o, true) ∈ hpJm ds out m c2 l sh j t2 s2 e2 → FlatO o := by
  intro o ho
  simp [hpJm] at ho
  subst ho
  exact fun x hx => List.all_eq_true.1 f1 x hx
theorem hiJm_flat (f1 : ds.all Ex.flat = true) (f2 : out.all Ex.flat = true) : ∀ o, (o, true) ∈ hiJm ds out m c2 l sh j t2 s2 e2 → FlatO o := by
  intro o ho
  simp [hiJm] at ho
  rcases ho with rfl | rfl
  · exact fun x hx => List.all_eq_true.1 f1 x hx
  · exact fun x hx => List.all_eq_true.1 f2 x hx
theorem cdJm_ok (h : okJm ds out m c2 l j = true) : ∀ k, cdJm ds out m c2 l j k = (ansJm k).take (cdJm ds out m c2 l j k).length := by
  unfold okJm at h
  rw [Bool.and_eq_true, Bool.and_eq_true, Bool.and_eq_true, Bool.and_eq_true] at h
  obtain ⟨g3, g5, g10, g12, g15⟩ := h
  intro k
  unfold cdJm ansJm
  split
  · rw [g3]; rfl
  · rw [g5]; rfl
  · rw [g10]; rfl
  · rw [g12]; rfl
  · rw [g15]; rfl
  · rfl
theorem ordJm {kk : Nat} (hkk : kk = 5) (f1 : ds.all Ex.flat = true) (f2 : out.all Ex.flat = true) (h : okJm ds out m c2 l j = true) : Orders (selfA (qS noW)) Try.prog 3 OV5 kk (fun m => m < 2 ^ OV5.size ∧ GoodY OV5 (bitsL OV5.size m)) (fun q => absT (tmL 36 ((sJm ds out m c2 l sh j t2 s2 e2).live (bitsL OV5.size q)))) (fun q => heapL ((sJm ds out m c2 l sh j t2 s2 e2).hp (bitsL OV5.size q))) (2 ^ OV5.size - 1) := by
  subst hkk
  exact sym_of2 (fixJm ds out m c2 l sh j t2 s2 e2) (obsJm ds out m c2 l sh j t2 s2 e2) (cdJm_ok h) (by kernel_rfl) (by kernel_rfl) (by kernel_rfl) (by kernel_rfl) (by kernel_rfl) (hpJm_flat (out := out) (m := m) (c2 := c2) (l := l) (sh := sh) (j := j) (t2 := t2) (s2 := s2) (e2 := e2) f1)
    (fun q hq => by
      simp only [sJm, List.mem_cons, List.not_mem_nil, or_false] at hq
      rcases hq with rfl | rfl | rfl
      · exact ⟨fun x hx => List.all_eq_true.1 f2 x hx, trivial⟩
      · exact ⟨fun x hx => List.all_eq_true.1 (by rfl) x hx, fun x hx => List.all_eq_true.1 (by rfl) x hx⟩
      · exact ⟨fun x hx => List.all_eq_true.1 (app_flat f2 rfl) x hx, fun x hx => List.all_eq_true.1 (app_flat f2 rfl) x hx⟩)
    (fun _ hq => absurd hq List.not_mem_nil) (by kernel_rfl)
end
section
def tmJm (ds out : List Value) (m c2 l : Nat) (sh j : Int) (t2 s2 : Nat) (e2 : Bool) : TM := tmL 36 ((sJm ds out m c2 l sh j t2 s2 e2).live (List.replicate 17 true))
def hJm (ds out : List Value) (m c2 l : Nat) (sh j : Int) (t2 s2 : Nat) (e2 : Bool) : CH := heapL ((sJm ds out m c2 l sh j t2 s2 e2).hp (List.replicate 17 true))
def inJm (_ds _out : List Value) (m c2 l : Nat) (sh j : Int) (_t2 _s2 : Nat) (_e2 : Bool) : List (Nat × Value) := [(1, sl 2 0 m c2), (2, i sh), (8, i j), (7, sl 4 0 l l)]
theorem endJm : bitsL OV5.size (2 ^ OV5.size - 1) = List.replicate 17 true := by kernel_rfl
theorem padJm (ds out : List Value) (m c2 l : Nat) (sh j : Int) (t2 s2 : Nat) (e2 : Bool) : heapL ((sJm ds out m c2 l sh j t2 s2 e2).hp (bitsL OV5.size 0)) = heapL ((hiJm ds out m c2 l sh j t2 s2 e2).map (·.1) ++ List.replicate 2 .dead) := by kernel_rfl
theorem zeroJm (ds out : List Value) (m c2 l : Nat) (sh j : Int) (t2 s2 : Nat) (e2 : Bool) : tmL 36 ((sJm ds out m c2 l sh j t2 s2 e2).live (bitsL OV5.size 0)) = tmL 36 (inJm ds out m c2 l sh j t2 s2 e2) := by kernel_rfl
variable {ds out : List Value} {m c2 l : Nat} {sh j : Int} {t2 s2 : Nat} {e2 : Bool}
theorem sndJm (f1 : ds.all Ex.flat = true) (f2 : out.all Ex.flat = true) (h : okJm ds out m c2 l j = true) (ro : Option Nat) {tm0 : Array Value} {H0 : CH} (hk : H0.length = 5) (hst : Restate 5 tm0 H0 (absT (tmL 36 (inJm ds out m c2 l sh j t2 s2 e2))) (heapL ((hiJm ds out m c2 l sh j t2 s2 e2).map (·.1)))) :
    Sound Try.prog 3 (.code (.region 5 OV5 true) ro tm0 H0 []) (.ex .normal (absT (tmJm ds out m c2 l sh j t2 s2 e2)) (hJm ds out m c2 l sh j t2 s2 e2) []) := by
  have ho := ordJm (sh := sh) (t2 := t2) (s2 := s2) (e2 := e2) hk f1 f2 h
  have hp := padJm ds out m c2 l sh j t2 s2 e2
  have hz := zeroJm ds out m c2 l sh j t2 s2 e2
  have h0 := goodY_zero OV5
  unfold tmJm hJm
  rw [← endJm]
  rw [← hz] at hst
  generalize sJm ds out m c2 l sh j t2 s2 e2 = s at *
  generalize hiJm ds out m c2 l sh j t2 s2 e2 = hh at *
  rw [← hk] at hst
  exact orders_sound2 (tmS := fun m => absT (tmL 36 (s.live (bitsL OV5.size m)))) (HS := fun m => heapL (s.hp (bitsL OV5.size m))) (mF := 2 ^ OV5.size - 1) (qS_selfSound noW_sound) mixU ho (by rw [hk]; decide) h0 hp hst ro
end
section
noncomputable def LJm (ds out : List Value) (m c2 l : Nat) (sh j : Int) (t2 s2 : Nat) (e2 : Bool) (L : LTab) : LTab := regE L 36 5 36 5 OV5 (inJm ds out m c2 l sh j t2 s2 e2) (hiJm ds out m c2 l sh j t2 s2 e2) (.br (okJm ds out m c2 l j) (.leaf (.ex .normal (tmJm ds out m c2 l sh j t2 s2 e2) (hJm ds out m c2 l sh j t2 s2 e2) [])) .fail)
variable {ds out : List Value} {m c2 l : Nat} {sh j : Int} {t2 s2 : Nat} {e2 : Bool}
theorem lsJm {L : LTab} (hL : LSound Try.prog 3 L) (f1 : ds.all Ex.flat = true) (f2 : out.all Ex.flat = true) : LSound Try.prog 3 (LJm ds out m c2 l sh j t2 s2 e2 L) := by
  refine LSound.region hL (by kernel_rfl) (hiJm_flat (out := out) (m := m) (c2 := c2) (l := l) (sh := sh) (j := j) (t2 := t2) (s2 := s2) (e2 := e2) f1 f2) fun r hr ro tm0 H0 hk hst => ?_
  cases h : okJm ds out m c2 l j with
  | false => rw [h] at hr; cases hr
  | true =>
    rw [h] at hr
    cases hr
    exact sndJm f1 f2 h ro hk hst
end
end Go.Proofs.Yteemponkignnhaa.Ways
set_option maxRecDepth 10000
noncomputable section
namespace Go.Proofs.Yteemponkignnhaa.Ways
open Go Go.Ex Go.RowKit Go.Turn
section
def hpJz (ds : List Value) (_m _c2 : Nat) (_sh _j : Int) (t2 s2 : Nat) (e2 : Bool) : List (CO × Bool) := [(.dead, false), (.dead, false), (.cells ds t2 s2 e2, true), (.cells [] 70 2 true, true)]
def hiJz (ds : List Value) (_m _c2 : Nat) (_sh _j : Int) (t2 s2 : Nat) (e2 : Bool) : List (CO × Bool) := [(.dead, false), (.dead, false), (.cells ds t2 s2 e2, true), (.cells [] 70 2 true, true)]
def sJz (ds : List Value) (m c2 : Nat) (sh j : Int) (t2 s2 : Nat) (e2 : Bool) : SymS where
  live0 := [(1, sl 2 0 m c2), (2, i sh), (8, i j)]
  S := [(18, 0, sl 3 0 0 0), (19, 1, sl 2 0 m c2), (20, 2, i j), (21, 3, pt 2 (0 + j.toNat * 2)), (22, 4, pt 2 (0 + j.toNat * 2)), (23, 5, i (pA ds j.toNat)), (24, 6, i sh), (25, 7, i (wrapF .i64 (pA ds j.toNat + sh))), (26, 8, sl 2 0 m c2), (27, 9, i j), (28, 10, pt 2 (0 + j.toNat * 2)), (29, 11, pt 2 (0 + j.toNat * 2 + 1)), (30, 12, i (pB ds j.toNat)), (31, 13, ag (elS ds j sh)), (32, 14, sl 4 0 1 1), (33, 15, sl 5 0 1 1)]
  S2 := [(7, 16, sl 3 0 0 0, sl 5 0 1 1)]
  hp0 := hpJz ds m c2 sh j t2 s2 e2
  A := [(14, .cells (elS ds j sh) 70 2 true, 14, .cells (elS ds j sh) 70 2 true), (15, .cells (elS ds j sh) 70 2 false, 15, .cells (elS ds j sh) 70 2 false)]
def cdJz (ds : List Value) (m c2 : Nat) (j : Int) (k : Nat) : List Bool := match k with
  | 3 => [bnd_ j m c2]
  | 5 => [cA ds j]
  | 10 => [bnd_ j m c2]
  | 12 => [cB2 ds j]
  | _ => []
end
def rhoJz (k : Nat) : List Nat := match k with
  | 14 => (List.range 6).set 4 6
  | 15 => (List.range 6).set 5 6
  | _ => List.range 6
def lenJz (k : Nat) : Nat := cond (Nat.beq k 14 || Nat.beq k 15) 7 6
def ansJz (k : Nat) : List Bool := match k with
  | 3 => [true]
  | 5 => [true]
  | 10 => [true]
  | 12 => [true]
  | _ => []
section
theorem fixJz (ds : List Value) (m c2 : Nat) (sh j : Int) (t2 s2 : Nat) (e2 : Bool) : ∀ B : List Bool, B.length = OV5.size → (List.range OV5.size).map (fun k => outV noW Try.prog 3 CVz 36 OV5 36 (sJz ds m c2 sh j t2 s2 e2) (forceN OV5.size (pre2 OV5) k B) k) = (List.range OV5.size).map fun k => (outV noW Try.prog 3 CVz 36 OV5 36 (sJz ds m c2 sh j t2 s2 e2) (forceN OV5.size (pre2 OV5) k B) k).fix
  | [x0, x1, x2, x3, x4, x5, x6, x7, x8, x9, x10, x11, x12, x13, x14, x15, x16], _ => by kernel_rfl
theorem obsJz (ds : List Value) (m c2 : Nat) (sh j : Int) (t2 s2 : Nat) (e2 : Bool) : ∀ B : List Bool, B.length = OV5.size → (List.range OV5.size).map (fun k => obsV noW Try.prog 3 CVz 36 OV5 36 (sJz ds m c2 sh j t2 s2 e2) rhoJz ansJz (forceN OV5.size (pre2 OV5) k B) k) = (List.range OV5.size).map fun k => expY 36 (sJz ds m c2 sh j t2 s2 e2) rhoJz (cdJz ds m c2 j) lenJz (forceN OV5.size (pre2 OV5) k B) k
  | [x0, x1, x2, x3, x4, x5, x6, x7, x8, x9, x10, x11, x12, x13, x14, x15, x16], _ => by kernel_rfl
def okJz (ds : List Value) (m c2 : Nat) (j : Int) : Bool := bnd_ j m c2 && (cA ds j && (bnd_ j m c2 && cB2 ds j))
end
section
variable {ds : List Value} {m c2 : Nat} {sh j : Int} {t2 s2 : Nat} {e2 : Bool}
theorem hpJz_flat (f1 : ds.all Ex.flat = true) : ∀ o, (o, true) ∈ hpJz ds m c2 sh j t2 s2 e2 → FlatO o := by
  intro o ho
  simp [hpJz] at ho
  rcases ho with rfl | rfl
  · exact fun x hx => List.all_eq_true.1 f1 x hx
  · exact fun x hx => List.all_eq_true.1 (by rfl) x hx
theorem hiJz_flat (f1 : ds.all Ex.flat = true) : ∀ o, (o, true) ∈ hiJz ds m c2 sh j t2 s2 e2 → FlatO o := by
  intro o ho
  simp [hiJz] at ho
  rcases ho with rfl | rfl
  · exact fun x hx => List.all_eq_true.1 f1 x hx
  · exact fun x hx => List.all_eq_true.1 (by rfl) x hx
theorem cdJz_ok (h : okJz ds m c2 j = true) : ∀ k, cdJz ds m c2 j k = (ansJz k).take (cdJz ds m c2 j k).length := by
  unfold okJz at h
  rw [Bool.and_eq_true, Bool.and_eq_true, Bool.and_eq_true] at h
  obtain ⟨g3, g5, g10, g12⟩ := h
  intro k
  unfold cdJz ansJz
  split
  · rw [g3]; rfl
  · rw [g5]; rfl
  · rw [g10]; rfl
  · rw [g12]; rfl
  · rfl
theorem ordJz {kk : Nat} (hkk : kk = 4) (f1 : ds.all Ex.flat = true) (h : okJz ds m c2 j = true) : Orders (selfA (qS noW)) Try.prog 3 OV5 kk (fun m => m < 2 ^ OV5.size ∧ GoodY OV5 (bitsL OV5.size m)) (fun q => absT (tmL 36 ((sJz ds m c2 sh j t2 s2 e2).live (bitsL OV5.size q)))) (fun q => heapL ((sJz ds m c2 sh j t2 s2 e2).hp (bitsL OV5.size q))) (2 ^ OV5.size - 1) := by
  subst hkk
  exact sym_of2 (fixJz ds m c2 sh j t2 s2 e2) (obsJz ds m c2 sh j t2 s2 e2) (cdJz_ok h) (by kernel_rfl) (by kernel_rfl) (by kernel_rfl) (by kernel_rfl) (by kernel_rfl) (hpJz_flat (m := m) (c2 := c2) (sh := sh) (j := j) (t2 := t2) (s2 := s2) (e2 := e2) f1)
    (fun q hq => by
      simp only [sJz, List.mem_cons, List.not_mem_nil, or_false] at hq
      rcases hq with rfl | rfl
      · exact ⟨fun x hx => List.all_eq_true.1 (by rfl) x hx, fun x hx => List.all_eq_true.1 (by rfl) x hx⟩
      · exact ⟨fun x hx => List.all_eq_true.1 (by rfl) x hx, fun x hx => List.all_eq_true.1 (by rfl) x hx⟩)
    (fun _ hq => absurd hq List.not_mem_nil) (by kernel_rfl)
end
section
def tmJz (ds : List Value) (m c2 : Nat) (sh j : Int) (t2 s2 : Nat) (e2 : Bool) : TM := tmL 36 ((sJz ds m c2 sh j t2 s2 e2).live (List.replicate 17 true))
def hJz (ds : List Value) (m c2 : Nat) (sh j : Int) (t2 s2 : Nat) (e2 : Bool) : CH := heapL ((sJz ds m c2 sh j t2 s2 e2).hp (List.replicate 17 true))
def inJz (_ds : List Value) (m c2 : Nat) (sh j : Int) (_t2 _s2 : Nat) (_e2 : Bool) : List (Nat × Value) := [(1, sl 2 0 m c2), (2, i sh), (8, i j), (7, sl 3 0 0 0)]
theorem endJz : bitsL OV5.size (2 ^ OV5.size - 1) = List.replicate 17 true := by kernel_rfl
theorem padJz (ds : List Value) (m c2 : Nat) (sh j : Int) (t2 s2 : Nat) (e2 : Bool) : heapL ((sJz ds m c2 sh j t2 s2 e2).hp (bitsL OV5.size 0)) = heapL ((hiJz ds m c2 sh j t2 s2 e2).map (·.1) ++ List.replicate 2 .dead) := by kernel_rfl
theorem zeroJz (ds : List Value) (m c2 : Nat) (sh j : Int) (t2 s2 : Nat) (e2 : Bool) : tmL 36 ((sJz ds m c2 sh j t2 s2 e2).live (bitsL OV5.size 0)) = tmL 36 (inJz ds m c2 sh j t2 s2 e2) := by kernel_rfl
variable {ds : List Value} {m c2 : Nat} {sh j : Int} {t2 s2 : Nat} {e2 : Bool}
theorem sndJz (f1 : ds.all Ex.flat = true) (h : okJz ds m c2 j = true) (ro : Option Nat) {tm0 : Array Value} {H0 : CH} (hk : H0.length = 4) (hst : Restate 4 tm0 H0 (absT (tmL 36 (inJz ds m c2 sh j t2 s2 e2))) (heapL ((hiJz ds m c2 sh j t2 s2 e2).map (·.1)))) :
    Sound Try.prog 3 (.code (.region 5 OV5 true) ro tm0 H0 []) (.ex .normal (absT (tmJz ds m c2 sh j t2 s2 e2)) (hJz ds m c2 sh j t2 s2 e2) []) := by
  have ho := ordJz (sh := sh) (t2 := t2) (s2 := s2) (e2 := e2) hk f1 h
  have hp := padJz ds m c2 sh j t2 s2 e2
  have hz := zeroJz ds m c2 sh j t2 s2 e2
  have h0 := goodY_zero OV5
  unfold tmJz hJz
  rw [← endJz]
  rw [← hz] at hst
  generalize sJz ds m c2 sh j t2 s2 e2 = s at *
  generalize hiJz ds m c2 sh j t2 s2 e2 = hh at *
  rw [← hk] at hst
  exact orders_sound2 (tmS := fun m => absT (tmL 36 (s.live (bitsL OV5.size m)))) (HS := fun m => heapL (s.hp (bitsL OV5.size m))) (mF := 2 ^ OV5.size - 1) (qS_selfSound noW_sound) mixU ho (by rw [hk]; decide) h0 hp hst ro
end
section
noncomputable def LJz (ds : List Value) (m c2 : Nat) (sh j : Int) (t2 s2 : Nat) (e2 : Bool) (L : LTab) : LTab := regE L 36 5 36 4 OV5 (inJz ds m c2 sh j t2 s2 e2) (hiJz ds m c2 sh j t2 s2 e2) (.br (okJz ds m c2 j) (.leaf (.ex .normal (tmJz ds m c2 sh j t2 s2 e2) (hJz ds m c2 sh j t2 s2 e2) [])) .fail)
variable {ds : List Value} {m c2 : Nat} {sh j : Int} {t2 s2 : Nat} {e2 : Bool}
theorem lsJz {L : LTab} (hL : LSound Try.prog 3 L) (f1 : ds.all Ex.flat = true) : LSound Try.prog 3 (LJz ds m c2 sh j t2 s2 e2 L) := by
  refine LSound.region hL (by kernel_rfl) (hiJz_flat (m := m) (c2 := c2) (sh := sh) (j := j) (t2 := t2) (s2 := s2) (e2 := e2) f1) fun r hr ro tm0 H0 hk hst => ?_
  cases h : okJz ds m c2 j with
  | false => rw [h] at hr; cases hr
  | true =>
    rw [h] at hr
    cases hr
    exact sndJz f1 h ro hk hst
end
end Go.Proofs.Yteemponkignnhaa.Ways
set_option maxRecDepth 10000
noncomputable section
namespace Go.Proofs.Yteemponkignnhaa.Ways
open Go Go.Ex Go.RowKit Go.Turn
section
def hpJn (ds _out : List Value) (_m _c2 _l : Nat) (_sh _j : Int) (t2 s2 : Nat) (e2 : Bool) : List (CO × Bool) := [(.dead, false), (.dead, false), (.cells ds t2 s2 e2, true), (.dead, false), (.dead, false)]
def hiJn (ds out : List Value) (_m _c2 _l : Nat) (_sh _j : Int) (t2 s2 : Nat) (e2 : Bool) : List (CO × Bool) := [(.dead, false), (.dead, false), (.cells ds t2 s2 e2, true), (.dead, false), (.dead, false), (.cells out 70 2 false, true)]
def sJn (ds out : List Value) (m c2 l : Nat) (sh j : Int) (t2 s2 : Nat) (e2 : Bool) : SymS where
  live0 := [(1, sl 2 0 m c2), (2, i sh), (8, i j)]
  S := [(18, 0, sl 5 0 l l), (19, 1, sl 2 0 m c2), (20, 2, i j), (21, 3, pt 2 (0 + j.toNat * 2)), (22, 4, pt 2 (0 + j.toNat * 2)), (23, 5, i (pA ds j.toNat)), (24, 6, i sh), (25, 7, i (wrapF .i64 (pA ds j.toNat + sh))), (26, 8, sl 2 0 m c2), (27, 9, i j), (28, 10, pt 2 (0 + j.toNat * 2)), (29, 11, pt 2 (0 + j.toNat * 2 + 1)), (30, 12, i (pB ds j.toNat)), (31, 13, ag (elS ds j sh)), (32, 14, sl 6 0 1 1), (33, 15, sl 7 0 (l + 1) (l + 1))]
  S2 := [(7, 16, sl 5 0 l l, sl 7 0 (l + 1) (l + 1))]
  hp0 := hpJn ds out m c2 l sh j t2 s2 e2
  A := [(99, .cells out 70 2 false, 15, .dead), (14, .cells (elS ds j sh) 70 2 true, 14, .cells (elS ds j sh) 70 2 true), (15, .cells (out ++ elS ds j sh) 70 2 false, 15, .cells (out ++ elS ds j sh) 70 2 false)]
def cdJn (ds out : List Value) (m c2 l : Nat) (j : Int) (k : Nat) : List Bool := match k with
  | 3 => [bnd_ j m c2]
  | 5 => [cA ds j]
  | 10 => [bnd_ j m c2]
  | 12 => [cB2 ds j]
  | 15 => [full2 l out]
  | _ => []
end
def rhoJn (k : Nat) : List Nat := match k with
  | 14 => (List.range 8).set 6 8
  | 15 => (List.range 8).set 7 8
  | _ => List.range 8
def lenJn (k : Nat) : Nat := cond (Nat.beq k 14 || Nat.beq k 15) 9 8
def ansJn (k : Nat) : List Bool := match k with
  | 3 => [true]
  | 5 => [true]
  | 10 => [true]
  | 12 => [true]
  | 15 => [true]
  | _ => []
section
theorem fixJn (ds out : List Value) (m c2 l : Nat) (sh j : Int) (t2 s2 : Nat) (e2 : Bool) : ∀ B : List Bool, B.length = OV5.size → (List.range OV5.size).map (fun k => outV noW Try.prog 3 CVm 36 OV5 36 (sJn ds out m c2 l sh j t2 s2 e2) (forceN OV5.size (pre2 OV5) k B) k) = (List.range OV5.size).map fun k => (outV noW Try.prog 3 CVm 36 OV5 36 (sJn ds out m c2 l sh j t2 s2 e2) (forceN OV5.size (pre2 OV5) k B) k).fix
  | [x0, x1, x2, x3, x4, x5, x6, x7, x8, x9, x10, x11, x12, x13, x14, x15, x16], _ => by kernel_rfl
theorem obsJn (ds out : List Value) (m c2 l : Nat) (sh j : Int) (t2 s2 : Nat) (e2 : Bool) : ∀ B : List Bool, B.length = OV5.size → (List.range OV5.size).map (fun k => obsV noW Try.prog 3 CVm 36 OV5 36 (sJn ds out m c2 l sh j t2 s2 e2) rhoJn ansJn (forceN OV5.size (pre2 OV5) k B) k) = (List.range OV5.size).map fun k => expY 36 (sJn ds out m c2 l sh j t2 s2 e2) rhoJn (cdJn ds out m c2 l j) lenJn (forceN OV5.size (pre2 OV5) k B) k
  | [x0, x1, x2, x3, x4, x5, x6, x7, x8, x9, x10, x11, x12, x13, x14, x15, x16], _ => by kernel_rfl
def okJn (ds out : List Value) (m c2 l : Nat) (j : Int) : Bool := bnd_ j m c2 && (cA ds j && (bnd_ j m c2 && (cB2 ds j && full2 l out)))
end
section
variable {ds out : List Value} {m c2 l : Nat} {sh j : Int} {t2 s2 : Nat} {e2 : Bool}
theorem hpJn_flat (f1 : ds.all Ex.flat = true) : ∀ o, (o, true) ∈ hpJn ds out m c2 l sh j t2 s2 e2 → FlatO o := by
  intro o ho
  simp [hpJn] at ho
  subst ho
  exact fun x hx => List.all_eq_true.1 f1 x hx
theorem hiJn_flat (f1 : ds.all Ex.flat = true) (f2 : out.all Ex.flat = true) : ∀ o, (o, true) ∈ hiJn ds out m c2 l sh j t2 s2 e2 → FlatO o := by
  intro o ho
  simp [hiJn] at ho
  rcases ho with rfl | rfl
  · exact fun x hx => List.all_eq_true.1 f1 x hx
  · exact fun x hx => List.all_eq_true.1 f2 x hx
theorem cdJn_ok (h : okJn ds out m c2 l j = true) : ∀ k, cdJn ds out m c2 l j k = (ansJn k).take (cdJn ds out m c2 l j k).length := by
  unfold okJn at h
  rw [Bool.and_eq_true, Bool.and_eq_true, Bool.and_eq_true, Bool.and_eq_true] at h
  obtain ⟨g3, g5, g10, g12, g15⟩ := h
  intro k
  unfold cdJn ansJn
  split
  · rw [g3]; rfl
  · rw [g5]; rfl
  · rw [g10]; rfl
  · rw [g12]; rfl
  · rw [g15]; rfl
  · rfl
theorem ordJn {kk : Nat} (hkk : kk = 6) (f1 : ds.all Ex.flat = true) (f2 : out.all Ex.flat = true) (h : okJn ds out m c2 l j = true) : Orders (selfA (qS noW)) Try.prog 3 OV5 kk (fun m => m < 2 ^ OV5.size ∧ GoodY OV5 (bitsL OV5.size m)) (fun q => absT (tmL 36 ((sJn ds out m c2 l sh j t2 s2 e2).live (bitsL OV5.size q)))) (fun q => heapL ((sJn ds out m c2 l sh j t2 s2 e2).hp (bitsL OV5.size q))) (2 ^ OV5.size - 1) := by
  subst hkk
  exact sym_of2 (fixJn ds out m c2 l sh j t2 s2 e2) (obsJn ds out m c2 l sh j t2 s2 e2) (cdJn_ok h) (by kernel_rfl) (by kernel_rfl) (by kernel_rfl) (by kernel_rfl) (by kernel_rfl) (hpJn_flat (out := out) (m := m) (c2 := c2) (l := l) (sh := sh) (j := j) (t2 := t2) (s2 := s2) (e2 := e2) f1)
    (fun q hq => by
      simp only [sJn, List.mem_cons, List.not_mem_nil, or_false] at hq
      rcases hq with rfl | rfl | rfl
      · exact ⟨fun x hx => List.all_eq_true.1 f2 x hx, trivial⟩
      · exact ⟨fun x hx => List.all_eq_true.1 (by rfl) x hx, fun x hx => List.all_eq_true.1 (by rfl) x hx⟩
      · exact ⟨fun x hx => List.all_eq_true.1 (app_flat f2 rfl) x hx, fun x hx => List.all_eq_true.1 (app_flat f2 rfl) x hx⟩)
    (fun _ hq => absurd hq List.not_mem_nil) (by kernel_rfl)
end
section
def tmJn (ds out : List Value) (m c2 l : Nat) (sh j : Int) (t2 s2 : Nat) (e2 : Bool) : TM := tmL 36 ((sJn ds out m c2 l sh j t2 s2 e2).live (List.replicate 17 true))
def hJn (ds out : List Value) (m c2 l : Nat) (sh j : Int) (t2 s2 : Nat) (e2 : Bool) : CH := heapL ((sJn ds out m c2 l sh j t2 s2 e2).hp (List.replicate 17 true))
def inJn (_ds _out : List Value) (m c2 l : Nat) (sh j : Int) (_t2 _s2 : Nat) (_e2 : Bool) : List (Nat × Value) := [(1, sl 2 0 m c2), (2, i sh), (8, i j), (7, sl 5 0 l l)]
theorem endJn : bitsL OV5.size (2 ^ OV5.size - 1) = List.replicate 17 true := by kernel_rfl
theorem padJn (ds out : List Value) (m c2 l : Nat) (sh j : Int) (t2 s2 : Nat) (e2 : Bool) : heapL ((sJn ds out m c2 l sh j t2 s2 e2).hp (bitsL OV5.size 0)) = heapL ((hiJn ds out m c2 l sh j t2 s2 e2).map (·.1) ++ List.replicate 2 .dead) := by kernel_rfl
theorem zeroJn (ds out : List Value) (m c2 l : Nat) (sh j : Int) (t2 s2 : Nat) (e2 : Bool) : tmL 36 ((sJn ds out m c2 l sh j t2 s2 e2).live (bitsL OV5.size 0)) = tmL 36 (inJn ds out m c2 l sh j t2 s2 e2) := by kernel_rfl
variable {ds out : List Value} {m c2 l : Nat} {sh j : Int} {t2 s2 : Nat} {e2 : Bool}
theorem sndJn (f1 : ds.all Ex.flat = true) (f2 : out.all Ex.flat = true) (h : okJn ds out m c2 l j = true) (ro : Option Nat) {tm0 : Array Value} {H0 : CH} (hk : H0.length = 6) (hst : Restate 6 tm0 H0 (absT (tmL 36 (inJn ds out m c2 l sh j t2 s2 e2))) (heapL ((hiJn ds out m c2 l sh j t2 s2 e2).map (·.1)))) :
    Sound Try.prog 3 (.code (.region 5 OV5 true) ro tm0 H0 []) (.ex .normal (absT (tmJn ds out m c2 l sh j t2 s2 e2)) (hJn ds out m c2 l sh j t2 s2 e2) []) := by
  have ho := ordJn (sh := sh) (t2 := t2) (s2 := s2) (e2 := e2) hk f1 f2 h
  have hp := padJn ds out m c2 l sh j t2 s2 e2
  have hz := zeroJn ds out m c2 l sh j t2 s2 e2
  have h0 := goodY_zero OV5
  unfold tmJn hJn
  rw [← endJn]
  rw [← hz] at hst
  generalize sJn ds out m c2 l sh j t2 s2 e2 = s at *
  generalize hiJn ds out m c2 l sh j t2 s2 e2 = hh at *
  rw [← hk] at hst
  exact orders_sound2 (tmS := fun m => absT (tmL 36 (s.live (bitsL OV5.size m)))) (HS := fun m => heapL (s.hp (bitsL OV5.size m))) (mF := 2 ^ OV5.size - 1) (qS_selfSound noW_sound) mixU ho (by rw [hk]; decide) h0 hp hst ro
end
section
noncomputable def LJn (ds out : List Value) (m c2 l : Nat) (sh j : Int) (t2 s2 : Nat) (e2 : Bool) (L : LTab) : LTab := regE L 36 5 36 6 OV5 (inJn ds out m c2 l sh j t2 s2 e2) (hiJn ds out m c2 l sh j t2 s2 e2) (.br (okJn ds out m c2 l j) (.leaf (.ex .normal (tmJn ds out m c2 l sh j t2 s2 e2) (hJn ds out m c2 l sh j t2 s2 e2) [])) .fail)
variable {ds out : List Value} {m c2 l : Nat} {sh j : Int} {t2 s2 : Nat} {e2 : Bool}
theorem lsJn {L : LTab} (hL : LSound Try.prog 3 L) (f1 : ds.all Ex.flat = true) (f2 : out.all Ex.flat = true) : LSound Try.prog 3 (LJn ds out m c2 l sh j t2 s2 e2 L) := by
  refine LSound.region hL (by kernel_rfl) (hiJn_flat (out := out) (m := m) (c2 := c2) (l := l) (sh := sh) (j := j) (t2 := t2) (s2 := s2) (e2 := e2) f1 f2) fun r hr ro tm0 H0 hk hst => ?_
  cases h : okJn ds out m c2 l j with
  | false => rw [h] at hr; cases hr
  | true =>
    rw [h] at hr
    cases hr
    exact sndJn f1 f2 h ro hk hst
end
end Go.Proofs.Yteemponkignnhaa.Ways
set_option maxRecDepth 10000
noncomputable section
namespace Go.Proofs.Yteemponkignnhaa.Ways
open Go Go.Ex Go.RowKit Go.Turn
section
def hpJs (ds _out : List Value) (_m _c2 _l : Nat) (_sh _j : Int) (t2 s2 : Nat) (e2 : Bool) : List (CO × Bool) := [(.dead, false), (.cells ds t2 s2 e2, true), (.dead, false)]
def hiJs (ds out : List Value) (_m _c2 _l : Nat) (_sh _j : Int) (t2 s2 : Nat) (e2 : Bool) : List (CO × Bool) := [(.dead, false), (.cells ds t2 s2 e2, true), (.dead, false), (.cells out 70 2 false, true)]
def sJs (ds out : List Value) (m c2 l : Nat) (sh j : Int) (t2 s2 : Nat) (e2 : Bool) : SymS where
  live0 := [(1, sl 1 0 m c2), (2, i sh), (8, i j)]
  S := [(18, 0, sl 3 0 l l), (19, 1, sl 1 0 m c2), (20, 2, i j), (21, 3, pt 1 (0 + j.toNat * 2)), (22, 4, pt 1 (0 + j.toNat * 2)), (23, 5, i (pA ds j.toNat)), (24, 6, i sh), (25, 7, i (wrapF .i64 (pA ds j.toNat + sh))), (26, 8, sl 1 0 m c2), (27, 9, i j), (28, 10, pt 1 (0 + j.toNat * 2)), (29, 11, pt 1 (0 + j.toNat * 2 + 1)), (30, 12, i (pB ds j.toNat)), (31, 13, ag (elS ds j sh)), (32, 14, sl 4 0 1 1), (33, 15, sl 5 0 (l + 1) (l + 1))]
  S2 := [(7, 16, sl 3 0 l l, sl 5 0 (l + 1) (l + 1))]
  hp0 := hpJs ds out m c2 l sh j t2 s2 e2
  A := [(99, .cells out 70 2 false, 15, .dead), (14, .cells (elS ds j sh) 70 2 true, 14, .cells (elS ds j sh) 70 2 true), (15, .cells (out ++ elS ds j sh) 70 2 false, 15, .cells (out ++ elS ds j sh) 70 2 false)]
def cdJs (ds out : List Value) (m c2 l : Nat) (j : Int) (k : Nat) : List Bool := match k with
  | 3 => [bnd_ j m c2]
  | 5 => [cA ds j]
  | 10 => [bnd_ j m c2]
  | 12 => [cB2 ds j]
  | 15 => [full2 l out]
  | _ => []
end
def rhoJs (k : Nat) : List Nat := match k with
  | 14 => (List.range 6).set 4 6
  | 15 => (List.range 6).set 5 6
  | _ => List.range 6
def lenJs (k : Nat) : Nat := cond (Nat.beq k 14 || Nat.beq k 15) 7 6
def ansJs (k : Nat) : List Bool := match k with
  | 3 => [true]
  | 5 => [true]
  | 10 => [true]
  | 12 => [true]
  | 15 => [true]
  | _ => []
section
theorem fixJs (ds out : List Value) (m c2 l : Nat) (sh j : Int) (t2 s2 : Nat) (e2 : Bool) : ∀ B : List Bool, B.length = OV5.size → (List.range OV5.size).map (fun k => outV noW Try.prog 2 CVm 36 OV5 36 (sJs ds out m c2 l sh j t2 s2 e2) (forceN OV5.size (pre2 OV5) k B) k) = (List.range OV5.size).map fun k => (outV noW Try.prog 2 CVm 36 OV5 36 (sJs ds out m c2 l sh j t2 s2 e2) (forceN OV5.size (pre2 OV5) k B) k).fix
  | [x0, x1, x2, x3, x4, x5, x6, x7, x8, x9, x10, x11, x12, x13, x14, x15, x16], _ => by kernel_rfl
theorem obsJs (ds out : List Value) (m c2 l : Nat) (sh j : Int) (t2 s2 : Nat) (e2 : Bool) : ∀ B : List Bool, B.length = OV5.size → (List.range OV5.size).map (fun k => obsV noW Try.prog 2 CVm 36 OV5 36 (sJs ds out m c2 l sh j t2 s2 e2) rhoJs ansJs (forceN OV5.size (pre2 OV5) k B) k) = (List.range OV5.size).map fun k => expY 36 (sJs ds out m c2 l sh j t2 s2 e2) rhoJs (cdJs ds out m c2 l j) lenJs (forceN OV5.size (pre2 OV5) k B) k
  | [x0, x1, x2, x3, x4, x5, x6, x7, x8, x9, x10, x11, x12, x13, x14, x15, x16], _ => by kernel_rfl
def okJs (ds out : List Value) (m c2 l : Nat) (j : Int) : Bool := bnd_ j m c2 && (cA ds j && (bnd_ j m c2 && (cB2 ds j && full2 l out)))
end
section
variable {ds out : List Value} {m c2 l : Nat} {sh j : Int} {t2 s2 : Nat} {e2 : Bool}
theorem hpJs_flat (f1 : ds.all Ex.flat = true) : ∀ o, (o, true) ∈ hpJs ds out m c2 l sh j t2 s2 e2 → FlatO o := by
  intro o ho
  simp [hpJs] at ho
  subst ho
  exact fun x hx => List.all_eq_true.1 f1 x hx
theorem hiJs_flat (f1 : ds.all Ex.flat = true) (f2 : out.all Ex.flat = true) : ∀ o, (o, true) ∈ hiJs ds out m c2 l sh j t2 s2 e2 → FlatO o := by
  intro o ho
  simp [hiJs] at ho
  rcases ho with rfl | rfl
  · exact fun x hx => List.all_eq_true.1 f1 x hx
  · exact fun x hx => List.all_eq_true.1 f2 x hx
theorem cdJs_ok (h : okJs ds out m c2 l j = true) : ∀ k, cdJs ds out m c2 l j k = (ansJs k).take (cdJs ds out m c2 l j k).length := by
  unfold okJs at h
  rw [Bool.and_eq_true, Bool.and_eq_true, Bool.and_eq_true, Bool.and_eq_true] at h
  obtain ⟨g3, g5, g10, g12, g15⟩ := h
  intro k
  unfold cdJs ansJs
  split
  · rw [g3]; rfl
  · rw [g5]; rfl
  · rw [g10]; rfl
  · rw [g12]; rfl
  · rw [g15]; rfl
  · rfl
theorem ordJs {kk : Nat} (hkk : kk = 4) (f1 : ds.all Ex.flat = true) (f2 : out.all Ex.flat = true) (h : okJs ds out m c2 l j = true) : Orders (selfA (qS noW)) Try.prog 2 OV5 kk (fun m => m < 2 ^ OV5.size ∧ GoodY OV5 (bitsL OV5.size m)) (fun q => absT (tmL 36 ((sJs ds out m c2 l sh j t2 s2 e2).live (bitsL OV5.size q)))) (fun q => heapL ((sJs ds out m c2 l sh j t2 s2 e2).hp (bitsL OV5.size q))) (2 ^ OV5.size - 1) := by
  subst hkk
  exact sym_of2 (fixJs ds out m c2 l sh j t2 s2 e2) (obsJs ds out m c2 l sh j t2 s2 e2) (cdJs_ok h) (by kernel_rfl) (by kernel_rfl) (by kernel_rfl) (by kernel_rfl) (by kernel_rfl) (hpJs_flat (out := out) (m := m) (c2 := c2) (l := l) (sh := sh) (j := j) (t2 := t2) (s2 := s2) (e2 := e2) f1)
    (fun q hq => by
      simp only [sJs, List.mem_cons, List.not_mem_nil, or_false] at hq
      rcases hq with rfl | rfl | rfl
      · exact ⟨fun x hx => List.all_eq_true.1 f2 x hx, trivial⟩
      · exact ⟨fun x hx => List.all_eq_true.1 (by rfl) x hx, fun x hx => List.all_eq_true.1 (by rfl) x hx⟩
      · exact ⟨fun x hx => List.all_eq_true.1 (app_flat f2 rfl) x hx, fun x hx => List.all_eq_true.1 (app_flat f2 rfl) x hx⟩)
    (fun _ hq => absurd hq List.not_mem_nil) (by kernel_rfl)
end
section
def tmJs (ds out : List Value) (m c2 l : Nat) (sh j : Int) (t2 s2 : Nat) (e2 : Bool) : TM := tmL 36 ((sJs ds out m c2 l sh j t2 s2 e2).live (List.replicate 17 true))
def hJs (ds out : List Value) (m c2 l : Nat) (sh j : Int) (t2 s2 : Nat) (e2 : Bool) : CH := heapL ((sJs ds out m c2 l sh j t2 s2 e2).hp (List.replicate 17 true))
def inJs (_ds _out : List Value) (m c2 l : Nat) (sh j : Int) (_t2 _s2 : Nat) (_e2 : Bool) : List (Nat × Value) := [(1, sl 1 0 m c2), (2, i sh), (8, i j), (7, sl 3 0 l l)]
theorem endJs : bitsL OV5.size (2 ^ OV5.size - 1) = List.replicate 17 true := by kernel_rfl
theorem padJs (ds out : List Value) (m c2 l : Nat) (sh j : Int) (t2 s2 : Nat) (e2 : Bool) : heapL ((sJs ds out m c2 l sh j t2 s2 e2).hp (bitsL OV5.size 0)) = heapL ((hiJs ds out m c2 l sh j t2 s2 e2).map (·.1) ++ List.replicate 2 .dead) := by kernel_rfl
theorem zeroJs (ds out : List Value) (m c2 l : Nat) (sh j : Int) (t2 s2 : Nat) (e2 : Bool) : tmL 36 ((sJs ds out m c2 l sh j t2 s2 e2).live (bitsL OV5.size 0)) = tmL 36 (inJs ds out m c2 l sh j t2 s2 e2) := by kernel_rfl
variable {ds out : List Value} {m c2 l : Nat} {sh j : Int} {t2 s2 : Nat} {e2 : Bool}
theorem sndJs (f1 : ds.all Ex.flat = true) (f2 : out.all Ex.flat = true) (h : okJs ds out m c2 l j = true) (ro : Option Nat) {tm0 : Array Value} {H0 : CH} (hk : H0.length = 4) (hst : Restate 4 tm0 H0 (absT (tmL 36 (inJs ds out m c2 l sh j t2 s2 e2))) (heapL ((hiJs ds out m c2 l sh j t2 s2 e2).map (·.1)))) :
    Sound Try.prog 2 (.code (.region 5 OV5 true) ro tm0 H0 []) (.ex .normal (absT (tmJs ds out m c2 l sh j t2 s2 e2)) (hJs ds out m c2 l sh j t2 s2 e2) []) := by
  have ho := ordJs (sh := sh) (t2 := t2) (s2 := s2) (e2 := e2) hk f1 f2 h
  have hp := padJs ds out m c2 l sh j t2 s2 e2
  have hz := zeroJs ds out m c2 l sh j t2 s2 e2
  have h0 := goodY_zero OV5
  unfold tmJs hJs
  rw [← endJs]
  rw [← hz] at hst
  generalize sJs ds out m c2 l sh j t2 s2 e2 = s at *
  generalize hiJs ds out m c2 l sh j t2 s2 e2 = hh at *
  rw [← hk] at hst
  exact orders_sound2 (tmS := fun m => absT (tmL 36 (s.live (bitsL OV5.size m)))) (HS := fun m => heapL (s.hp (bitsL OV5.size m))) (mF := 2 ^ OV5.size - 1) (qS_selfSound noW_sound) mixU ho (by rw [hk]; decide) h0 hp hst ro
end
section
noncomputable def LJs (ds out : List Value) (m c2 l : Nat) (sh j : Int) (t2 s2 : Nat) (e2 : Bool) (L : LTab) : LTab := regE L 36 5 36 4 OV5 (inJs ds out m c2 l sh j t2 s2 e2) (hiJs ds out m c2 l sh j t2 s2 e2) (.br (okJs ds out m c2 l j) (.leaf (.ex .normal (tmJs ds out m c2 l sh j t2 s2 e2) (hJs ds out m c2 l sh j t2 s2 e2) [])) .fail)
variable {ds out : List Value} {m c2 l : Nat} {sh j : Int} {t2 s2 : Nat} {e2 : Bool}
theorem lsJs {L : LTab} (hL : LSound Try.prog 2 L) (f1 : ds.all Ex.flat = true) (f2 : out.all Ex.flat = true) : LSound Try.prog 2 (LJs ds out m c2 l sh j t2 s2 e2 L) := by
  refine LSound.region hL (by kernel_rfl) (hiJs_flat (out := out) (m := m) (c2 := c2) (l := l) (sh := sh) (j := j) (t2 := t2) (s2 := s2) (e2 := e2) f1 f2) fun r hr ro tm0 H0 hk hst => ?_
  cases h : okJs ds out m c2 l j with
  | false => rw [h] at hr; cases hr
  | true =>
    rw [h] at hr
    cases hr
    exact sndJs f1 f2 h ro hk hst
end
end Go.Proofs.Yteemponkignnhaa.Ways
set_option maxRecDepth 10000
noncomputable section
namespace Go.Proofs.Yteemponkignnhaa.Ways
open Go Go.Ex Go.RowKit Go.Turn
section
def hpJt (ds _out : List Value) (_m _c2 _l : Nat) (_sh _j : Int) (t2 s2 : Nat) (e2 : Bool) : List (CO × Bool) := [(.dead, false), (.cells ds t2 s2 e2, true), (.dead, false), (.dead, false)]
def hiJt (ds out : List Value) (_m _c2 _l : Nat) (_sh _j : Int) (t2 s2 : Nat) (e2 : Bool) : List (CO × Bool) := [(.dead, false), (.cells ds t2 s2 e2, true), (.dead, false), (.dead, false), (.cells out 70 2 false, true)]
def sJt (ds out : List Value) (m c2 l : Nat) (sh j : Int) (t2 s2 : Nat) (e2 : Bool) : SymS where
  live0 := [(1, sl 1 0 m c2), (2, i sh), (8, i j)]
  S := [(18, 0, sl 4 0 l l), (19, 1, sl 1 0 m c2), (20, 2, i j), (21, 3, pt 1 (0 + j.toNat * 2)), (22, 4, pt 1 (0 + j.toNat * 2)), (23, 5, i (pA ds j.toNat)), (24, 6, i sh), (25, 7, i (wrapF .i64 (pA ds j.toNat + sh))), (26, 8, sl 1 0 m c2), (27, 9, i j), (28, 10, pt 1 (0 + j.toNat * 2)), (29, 11, pt 1 (0 + j.toNat * 2 + 1)), (30, 12, i (pB ds j.toNat)), (31, 13, ag (elS ds j sh)), (32, 14, sl 5 0 1 1), (33, 15, sl 6 0 (l + 1) (l + 1))]
  S2 := [(7, 16, sl 4 0 l l, sl 6 0 (l + 1) (l + 1))]
  hp0 := hpJt ds out m c2 l sh j t2 s2 e2
  A := [(99, .cells out 70 2 false, 15, .dead), (14, .cells (elS ds j sh) 70 2 true, 14, .cells (elS ds j sh) 70 2 true), (15, .cells (out ++ elS ds j sh) 70 2 false, 15, .cells (out ++ elS ds j sh) 70 2 false)]
def cdJt (ds out : List Value) (m c2 l : Nat) (j : Int) (k : Nat) : List Bool := match k with
  | 3 => [bnd_ j m c2]
  | 5 => [cA ds j]
  | 10 => [bnd_ j m c2]
  | 12 => [cB2 ds j]
  | 15 => [full2 l out]
  | _ => []
end
def rhoJt (k : Nat) : List Nat := match k with
  | 14 => (List.range 7).set 5 7
  | 15 => (List.range 7).set 6 7
  | _ => List.range 7
def lenJt (k : Nat) : Nat := cond (Nat.beq k 14 || Nat.beq k 15) 8 7
def ansJt (k : Nat) : List Bool := match k with
  | 3 => [true]
  | 5 => [true]
  | 10 => [true]
  | 12 => [true]
  | 15 => [true]
  | _ => []
section
theorem fixJt (ds out : List Value) (m c2 l : Nat) (sh j : Int) (t2 s2 : Nat) (e2 : Bool) : ∀ B : List Bool, B.length = OV5.size → (List.range OV5.size).map (fun k => outV noW Try.prog 2 CVm 36 OV5 36 (sJt ds out m c2 l sh j t2 s2 e2) (forceN OV5.size (pre2 OV5) k B) k) = (List.range OV5.size).map fun k => (outV noW Try.prog 2 CVm 36 OV5 36 (sJt ds out m c2 l sh j t2 s2 e2) (forceN OV5.size (pre2 OV5) k B) k).fix
  | [x0, x1, x2, x3, x4, x5, x6, x7, x8, x9, x10, x11, x12, x13, x14, x15, x16], _ => by kernel_rfl
theorem obsJt (ds out : List Value) (m c2 l : Nat) (sh j : Int) (t2 s2 : Nat) (e2 : Bool) : ∀ B : List Bool, B.length = OV5.size → (List.range OV5.size).map (fun k => obsV noW Try.prog 2 CVm 36 OV5 36 (sJt ds out m c2 l sh j t2 s2 e2) rhoJt ansJt (forceN OV5.size (pre2 OV5) k B) k) = (List.range OV5.size).map fun k => expY 36 (sJt ds out m c2 l sh j t2 s2 e2) rhoJt (cdJt ds out m c2 l j) lenJt (forceN OV5.size (pre2 OV5) k B) k
  | [x0, x1, x2, x3, x4, x5, x6, x7, x8, x9, x10, x11, x12, x13, x14, x15, x16], _ => by kernel_rfl
def okJt (ds out : List Value) (m c2 l : Nat) (j : Int) : Bool := bnd_ j m c2 && (cA ds j && (bnd_ j m c2 && (cB2 ds j && full2 l out)))
end
section
variable {ds out : List Value} {m c2 l : Nat} {sh j : Int} {t2 s2 : Nat} {e2 : Bool}
theorem hpJt_flat (f1 : ds.all Ex.flat = true) : ∀ o, (o, true) ∈ hpJt ds out m c2 l sh j t2 s2 e2 → FlatO o := by
  intro o ho
  simp [hpJt] at ho
  subst ho
  exact fun x hx => List.all_eq_true.1 f1 x hx
theorem hiJt_flat (f1 : ds.all Ex.flat = true) (f2 : out.all Ex.flat = true) : ∀ o, (o, true) ∈ hiJt ds out m c2 l sh j t2 s2 e2 → FlatO o := by
  intro o ho
  simp [hiJt] at ho
  rcases ho with rfl | rfl
  · exact fun x hx => List.all_eq_true.1 f1 x hx
  · exact fun x hx => List.all_eq_true.1 f2 x hx
theorem cdJt_ok (h : okJt ds out m c2 l j = true) : ∀ k, cdJt ds out m c2 l j k = (ansJt k).take (cdJt ds out m c2 l j k).length := by
  unfold okJt at h
  rw [Bool.and_eq_true, Bool.and_eq_true, Bool.and_eq_true, Bool.and_eq_true] at h
  obtain ⟨g3, g5, g10, g12, g15⟩ := h
  intro k
  unfold cdJt ansJt
  split
  · rw [g3]; rfl
  · rw [g5]; rfl
  · rw [g10]; rfl
  · rw [g12]; rfl
  · rw [g15]; rfl
  · rfl
theorem ordJt {kk : Nat} (hkk : kk = 5) (f1 : ds.all Ex.flat = true) (f2 : out.all Ex.flat = true) (h : okJt ds out m c2 l j = true) : Orders (selfA (qS noW)) Try.prog 2 OV5 kk (fun m => m < 2 ^ OV5.size ∧ GoodY OV5 (bitsL OV5.size m)) (fun q => absT (tmL 36 ((sJt ds out m c2 l sh j t2 s2 e2).live (bitsL OV5.size q)))) (fun q => heapL ((sJt ds out m c2 l sh j t2 s2 e2).hp (bitsL OV5.size q))) (2 ^ OV5.size - 1) := by
  subst hkk
  exact sym_of2 (fixJt ds out m c2 l sh j t2 s2 e2) (obsJt ds out m c2 l sh j t2 s2 e2) (cdJt_ok h) (by kernel_rfl) (by kernel_rfl) (by kernel_rfl) (by kernel_rfl) (by kernel_rfl) (hpJt_flat (out := out) (m := m) (c2 := c2) (l := l) (sh := sh) (j := j) (t2 := t2) (s2 := s2) (e2 := e2) f1)
    (fun q hq => by
      simp only [sJt, List.mem_cons, List.not_mem_nil, or_false] at hq
      rcases hq with rfl | rfl | rfl
      · exact ⟨fun x hx => List.all_eq_true.1 f2 x hx, trivial⟩
      · exact ⟨fun x hx => List.all_eq_true.1 (by rfl) x hx, fun x hx => List.all_eq_true.1 (by rfl) x hx⟩
      · exact ⟨fun x hx => List.all_eq_true.1 (app_flat f2 rfl) x hx, fun x hx => List.all_eq_true.1 (app_flat f2 rfl) x hx⟩)
    (fun _ hq => absurd hq List.not_mem_nil) (by kernel_rfl)
end
section
def tmJt (ds out : List Value) (m c2 l : Nat) (sh j : Int) (t2 s2 : Nat) (e2 : Bool) : TM := tmL 36 ((sJt ds out m c2 l sh j t2 s2 e2).live (List.replicate 17 true))
def hJt (ds out : List Value) (m c2 l : Nat) (sh j : Int) (t2 s2 : Nat) (e2 : Bool) : CH := heapL ((sJt ds out m c2 l sh j t2 s2 e2).hp (List.replicate 17 true))
def inJt (_ds _out : List Value) (m c2 l : Nat) (sh j : Int) (_t2 _s2 : Nat) (_e2 : Bool) : List (Nat × Value) := [(1, sl 1 0 m c2), (2, i sh), (8, i j), (7, sl 4 0 l l)]
theorem endJt : bitsL OV5.size (2 ^ OV5.size - 1) = List.replicate 17 true := by kernel_rfl
theorem padJt (ds out : List Value) (m c2 l : Nat) (sh j : Int) (t2 s2 : Nat) (e2 : Bool) : heapL ((sJt ds out m c2 l sh j t2 s2 e2).hp (bitsL OV5.size 0)) = heapL ((hiJt ds out m c2 l sh j t2 s2 e2).map (·.1) ++ List.replicate 2 .dead) := by kernel_rfl
theorem zeroJt (ds out : List Value) (m c2 l : Nat) (sh j : Int) (t2 s2 : Nat) (e2 : Bool) : tmL 36 ((sJt ds out m c2 l sh j t2 s2 e2).live (bitsL OV5.size 0)) = tmL 36 (inJt ds out m c2 l sh j t2 s2 e2) := by kernel_rfl
variable {ds out : List Value} {m c2 l : Nat} {sh j : Int} {t2 s2 : Nat} {e2 : Bool}
theorem sndJt (f1 : ds.all Ex.flat = true) (f2 : out.all Ex.flat = true) (h : okJt ds out m c2 l j = true) (ro : Option Nat) {tm0 : Array Value} {H0 : CH} (hk : H0.length = 5) (hst : Restate 5 tm0 H0 (absT (tmL 36 (inJt ds out m c2 l sh j t2 s2 e2))) (heapL ((hiJt ds out m c2 l sh j t2 s2 e2).map (·.1)))) :
    Sound Try.prog 2 (.code (.region 5 OV5 true) ro tm0 H0 []) (.ex .normal (absT (tmJt ds out m c2 l sh j t2 s2 e2)) (hJt ds out m c2 l sh j t2 s2 e2) []) := by
  have ho := ordJt (sh := sh) (t2 := t2) (s2 := s2) (e2 := e2) hk f1 f2 h
  have hp := padJt ds out m c2 l sh j t2 s2 e2
  have hz := zeroJt ds out m c2 l sh j t2 s2 e2
  have h0 := goodY_zero OV5
  unfold tmJt hJt
  rw [← endJt]
  rw [← hz] at hst
  generalize sJt ds out m c2 l sh j t2 s2 e2 = s at *
  generalize hiJt ds out m c2 l sh j t2 s2 e2 = hh at *
  rw [← hk] at hst
  exact orders_sound2 (tmS := fun m => absT (tmL 36 (s.live (bitsL OV5.size m)))) (HS := fun m => heapL (s.hp (bitsL OV5.size m))) (mF := 2 ^ OV5.size - 1) (qS_selfSound noW_sound) mixU ho (by rw [hk]; decide) h0 hp hst ro
end
section
noncomputable def LJt (ds out : List Value) (m c2 l : Nat) (sh j : Int) (t2 s2 : Nat) (e2 : Bool) (L : LTab) : LTab := regE L 36 5 36 5 OV5 (inJt ds out m c2 l sh j t2 s2 e2) (hiJt ds out m c2 l sh j t2 s2 e2) (.br (okJt ds out m c2 l j) (.leaf (.ex .normal (tmJt ds out m c2 l sh j t2 s2 e2) (hJt ds out m c2 l sh j t2 s2 e2) [])) .fail)
variable {ds out : List Value} {m c2 l : Nat} {sh j : Int} {t2 s2 : Nat} {e2 : Bool}
theorem lsJt {L : LTab} (hL : LSound Try.prog 2 L) (f1 : ds.all Ex.flat = true) (f2 : out.all Ex.flat = true) : LSound Try.prog 2 (LJt ds out m c2 l sh j t2 s2 e2 L) := by
  refine LSound.region hL (by kernel_rfl) (hiJt_flat (out := out) (m := m) (c2 := c2) (l := l) (sh := sh) (j := j) (t2 := t2) (s2 := s2) (e2 := e2) f1 f2) fun r hr ro tm0 H0 hk hst => ?_
  cases h : okJt ds out m c2 l j with
  | false => rw [h] at hr; cases hr
  | true =>
    rw [h] at hr
    cases hr
    exact sndJt f1 f2 h ro hk hst
end
end Go.Proofs.Yteemponkignnhaa.Ways
