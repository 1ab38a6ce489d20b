import Derived.Test.YtphadgdlknhbnaaLf4
set_option maxRecDepth 10000
noncomputable section
namespace Go.Proofs.Ytphadgdlknhbnaa.Ways
open Go Go.Ex Go.RowKit Go.Turn
noncomputable def B33i : Code := bodyL Try.f33 8
noncomputable def B33 : Code := bodyL Try.f33 4
def sy33 : List (Nat × Nat) := [(33, 30), (33, 32), (33, 35), (33, 37), (33, 42), (33, 44), (33, 47), (33, 49), (33, 55), (33, 57), (33, 60), (33, 62), (33, 71), (33, 72)]
noncomputable def sp33 : Nat → Nat → Split := at_ [(33, 19), (33, 25), (33, 38), (33, 50), (33, 65), (33, 67)] .bool no_
noncomputable def C33i : Cfg := ⟨TX9, sp33, on_ sy33, noL⟩
def cI (cy : List Value) (q : Nat) (kk : Int) : Bool := isCellB (.i .i64) cy[0 + kk.toNat * 4 + q]?
abbrev SI := Int × Bool
section
variable (cs cy : List Value) (n lc : Nat) (x j : Int) (K : Nat)
def hit33 (q : SI) : SS SI := askS (bnd_ q.1 lc lc) <| askS (cI cy 3 q.1) <| askS (bnd_ q.1 lc lc) <| askS (cI cy 2 q.1) <| .br (ltF (szC (pC cy 2 q.1.toNat) (pC cy 3 q.1.toNat)) x) (.next K (List.range K) (wrapF .i64 (q.1 + 1), false)) (.next K (List.range K) (wrapF .i64 (q.1 + 1), q.2))
def st33i (q : SI) : SS SI := .br (ltF q.1 lc) (askS (bnd_ q.1 lc lc) <| askS (cI cy 0 q.1) <| askS (bnd_ j n n) <| askS (cA cs j) <| .br (eqF (pC cy 0 q.1.toNat) (pA cs j.toNat)) (hit33 cy lc x K q)
    (askS (bnd_ q.1 lc lc) <| askS (cI cy 1 q.1) <| askS (bnd_ j n n) <| askS (cA cs j) <| .br (eqF (pC cy 1 q.1.toNat) (pA cs j.toNat)) (hit33 cy lc x K q) (.next K (List.range K) (wrapF .i64 (q.1 + 1), q.2)))) (.done K (List.range K) 0)
end
section
variable (cs cy : List Value) (n lc : Nat) (x j : Int) (t s : Nat) (ex : Bool)
def hz33 : List (CO × Bool) := [(.dead, false), (.cells cs t s ex, true), (.cells cy 69 4 false, true), (.dead, false)]
def hm33 (out : List Value) : List (CO × Bool) := [(.dead, false), (.cells cs t s ex, true), (.cells cy 69 4 false, true), (.dead, false), (.cells out 70 2 false, true)]
def li33 (o : Value) (q : SI) : List (Nat × Value) := [(0, sl 1 0 n n), (1, i x), (5, sl 2 0 lc lc), (7, o), (8, i j), (9, b_ q.2), (10, i q.1)]
def le33 (o : Value) (q : SI) : List (Nat × Value) := [(0, sl 1 0 n n), (1, i x), (5, sl 2 0 lc lc), (7, o), (8, i j), (9, b_ q.2)]
def Sz33 : Shape SI := ⟨76, fun q => ⟨li33 n lc x j (.slice none 0 0) q, hz33 cs cy t s ex⟩, fun _ q => (.exit 2, ⟨le33 n lc x j (.slice none 0 0) q, hz33 cs cy t s ex⟩)⟩
def Sm33 (l : Nat) (out : List Value) : Shape SI := ⟨76, fun q => ⟨li33 n lc x j (sl 4 0 l l) q, hm33 cs cy t s ex out⟩, fun _ q => (.exit 2, ⟨le33 n lc x j (sl 4 0 l l) q, hm33 cs cy t s ex out⟩)⟩
def kB (cs cy : List Value) (lc : Nat) (x j : Int) : Bool := (List.range lc).all fun k => !((decide (pC cy 0 k = pA cs j.toNat) || decide (pC cy 1 k = pA cs j.toNat)) && decide (szC (pC cy 2 k) (pC cy 3 k) < x))
def rI (q : SI) : Prop := ∃ m, runS (st33i cs cy n lc x j 0) m (0, true) = some (0, q)
def td33 : KS → Go.Ex.Told
  | .z j => ⟨[(0, sl 1 0 n n), (1, i x), (5, sl 2 0 lc lc), (7, .slice none 0 0), (8, i j)], hz33 cs cy t s ex⟩
  | .m j l out => ⟨[(0, sl 1 0 n n), (1, i x), (5, sl 2 0 lc lc), (7, sl 4 0 l l), (8, i j)], hm33 cs cy t s ex out⟩
def fd33 : KS → Go.Ex.Told
  | .z _ => ⟨[(7, .slice none 0 0)], hz33 cs cy t s ex⟩
  | .m _ l out => ⟨[(7, sl 4 0 l l)], hm33 cs cy t s ex out⟩
def S33 : Shape KS := ⟨76, td33 cs cy n lc x t s ex, fun _ q => (.exit 0, fd33 cs cy t s ex q)⟩
def rr33 (j : Int) : SI := ((lc : Int), kB cs cy lc x j)
noncomputable def st33 : KS → SS KS
  | .z j => .br (ltF j n) (askS (tru (rI cs cy n lc x j (rr33 cs cy lc x j))) <| askS true <| .br (kB cs cy lc x j) (askS (bnd_ j n n) <| askS (cP cs j) <| .next 6 [0, 1, 2, 3, 5] (.m (wrapF .i64 (j + 1)) 1 (el cs j))) (.next 4 [0, 1, 2, 3] (.z (wrapF .i64 (j + 1))))) (.done 4 [0, 1, 2, 3] 0)
  | .m j l out => .br (ltF j n) (askS (tru (rI cs cy n lc x j (rr33 cs cy lc x j))) <| askS true <| .br (kB cs cy lc x j) (askS (bnd_ j n n) <| askS (cP cs j) <| askS (full2 l out) <| .next 7 [0, 1, 2, 3, 6] (.m (wrapF .i64 (j + 1)) (l + 1) (out ++ el cs j))) (.next 5 [0, 1, 2, 3, 4] (.m (wrapF .i64 (j + 1)) l out))) (.done 5 [0, 1, 2, 3, 4] 0)
noncomputable def C33 : KS → Cfg
  | .z j => ⟨TX9, sp33, on_ sy33, loopE noL 33 8 76 4 B33i ((Sz33 cs cy n lc x j t s ex).st (0, true)).live ((Sz33 cs cy n lc x j t s ex).st (0, true)).hp (.br (tru (rI cs cy n lc x j (rr33 cs cy lc x j))) (finO (Sz33 cs cy n lc x j t s ex) (0, rr33 cs cy lc x j) [0]) .fail)⟩
  | .m j l out => ⟨TX9, sp33, on_ ((33, 74) :: (33, 300074) :: sy33), loopE noL 33 8 76 5 B33i ((Sm33 cs cy n lc x j t s ex l out).st (0, true)).live ((Sm33 cs cy n lc x j t s ex l out).st (0, true)).hp (.br (tru (rI cs cy n lc x j (rr33 cs cy lc x j))) (finO (Sm33 cs cy n lc x j t s ex l out) (0, rr33 cs cy lc x j) [0]) .fail)⟩
end
section
variable {cs cy : List Value} {n lc : Nat} {x j : Int} {t s : Nat} {ex : Bool}
theorem hz33_flat (g1 : cs.all Ex.flat = true) (g2 : cy.all Ex.flat = true) : ∀ o, (o, true) ∈ hz33 cs cy t s ex → FlatO o := by
  intro o ho
  simp [hz33] at ho
  rcases ho with rfl | rfl
  · exact fun x hx => List.all_eq_true.1 g1 x hx
  · exact fun x hx => List.all_eq_true.1 g2 x hx
theorem hm33_flat (g1 : cs.all Ex.flat = true) (g2 : cy.all Ex.flat = true) {out : List Value} (g3 : out.all Ex.flat = true) : ∀ o, (o, true) ∈ hm33 cs cy t s ex out → FlatO o := by
  intro o ho
  simp [hm33] at ho
  rcases ho with rfl | rfl | rfl
  · exact fun x hx => List.all_eq_true.1 g1 x hx
  · exact fun x hx => List.all_eq_true.1 g2 x hx
  · exact fun x hx => List.all_eq_true.1 g3 x hx
theorem LIz (g1 : cs.all Ex.flat = true) (g2 : cy.all Ex.flat = true) : Loop1 Try.prog 2 33 B33i (Sz33 cs cy n lc x j t s ex) 4 (st33i cs cy n lc x j 4) (fun _ => True) :=
  .mk' (C := fun _ => C33i) (n := 60) (fun _ _ => tsX9) (fun _ _ => .none) (fun q ro _ => by kernel_rfl) (fun q ro _ => by kernel_rfl) (fun q => by kernel_rfl) (fun _ _ _ _ => trivial) (fun _ _ => hz33_flat g1 g2) (fun _ _ _ _ => ⟨hz33_flat g1 g2, fun h => by cases h⟩)
theorem LIm (g1 : cs.all Ex.flat = true) (g2 : cy.all Ex.flat = true) {l : Nat} {out : List Value} (g3 : out.all Ex.flat = true) : Loop1 Try.prog 2 33 B33i (Sm33 cs cy n lc x j t s ex l out) 5 (st33i cs cy n lc x j 5) (fun _ => True) :=
  .mk' (C := fun _ => C33i) (n := 60) (fun _ _ => tsX9) (fun _ _ => .none) (fun q ro _ => by kernel_rfl) (fun q ro _ => by kernel_rfl) (fun q => by kernel_rfl) (fun _ _ _ _ => trivial) (fun _ _ => hm33_flat g1 g2 g3) (fun _ _ _ _ => ⟨hm33_flat g1 g2 g3, fun h => by cases h⟩)
theorem hit_K {q : SI} {K K' : Nat} : (hit33 cy lc x K q).sel = (hit33 cy lc x K' q).sel := ask_same (ask_same (ask_same (ask_same (br_same rfl rfl))))
theorem st33_K {q : SI} {K K' : Nat} : (st33i cs cy n lc x j K q).sel = (st33i cs cy n lc x j K' q).sel :=
  br_same (ask_same (ask_same (ask_same (ask_same (br_same hit_K (ask_same (ask_same (ask_same (ask_same (br_same hit_K rfl)))))))))) rfl
theorem runS_congr {σ : Type} {f g : σ → SS σ} (h : ∀ q, (f q).sel = (g q).sel) : ∀ (m : Nat) (q : σ), runS f m q = runS g m q
  | 0, _ => rfl
  | m + 1, q => by
    unfold runS
    rw [h q]
    split
    · exact runS_congr h m _
    · rfl
    · rfl
theorem rI_K {q : SI} (K : Nat) (h : rI cs cy n lc x j q) : ∃ m, runS (st33i cs cy n lc x j K) m (0, true) = some (0, q) := by
  obtain ⟨m, hm⟩ := h
  exact ⟨m, by rw [runS_congr (fun _ => st33_K (K' := 0)) m]; exact hm⟩
theorem good33 : ∀ q q', GdK q → (st33 cs cy n lc x q).sel = some (.inl q') → GdK q' := by
  intro q q' hg h
  cases q with
  | z j =>
    rcases br_or' h with h | h
    · rcases br_or' (ask_or' (ask_or' h)) with h | h
      · have h := ask_or' (ask_or' h); cases h; rfl
      · cases h; trivial
    · cases h
  | m j l out =>
    rcases br_or' h with h | h
    · rcases br_or' (ask_or' (ask_or' h)) with h | h
      · have h := ask_or' (ask_or' (ask_or' h)); cases h; exact app_flat hg rfl
      · cases h; exact hg
    · cases h
theorem L33 (g1 : cs.all Ex.flat = true) (g2 : cy.all Ex.flat = true) : Loop1 Try.prog 2 33 B33 (S33 cs cy n lc x t s ex) 4 (st33 cs cy n lc x) GdK :=
  .mk' (C := C33 cs cy n lc x t s ex) (n := 60) (fun q _ => by cases q <;> exact tsX9) (fun q hq => by
    cases q with
    | z _ => exact (LIz g1 g2).tableIf .none (by decide) trivial (fun hp => rI_K 4 (tru_iff.1 hp)) (by kernel_rfl) [0]
    | m j l out => exact (LIm g1 g2 hq).tableIf .none (by decide) trivial (fun hp => rI_K 5 (tru_iff.1 hp)) (by kernel_rfl) [0])
    (fun q ro _ => by cases q <;> kernel_rfl) (fun q ro _ => by cases q <;> kernel_rfl) (fun q => by cases q <;> kernel_rfl) good33
    (fun q hq => by cases q with
      | z _ => exact hz33_flat g1 g2
      | m _ _ _ => exact hm33_flat g1 g2 hq)
    (fun q j hq _ => by cases q with
      | z _ => exact ⟨hz33_flat g1 g2, fun h => by cases h⟩
      | m _ _ _ => exact ⟨hm33_flat g1 g2 hq, fun h => by cases h⟩)
end
end Go.Proofs.Ytphadgdlknhbnaa.Ways
set_option maxRecDepth 10000
noncomputable section
namespace Go.Proofs.Ytphadgdlknhbnaa.Ways
open Go Go.Ex Go.RowKit Go.Turn
def hitB (C : List Cy) (x a : Int) (k : Nat) : Bool := (decide (pC (flatC C) 0 k = a) || decide (pC (flatC C) 1 k = a)) && decide (szC (pC (flatC C) 2 k) (pC (flatC C) 3 k) < x)
theorem cI_t {C : List Cy} {k : Nat} (h : k < C.length) : cI (flatC C) 0 (k : Int) = true ∧ cI (flatC C) 1 (k : Int) = true ∧ cI (flatC C) 2 (k : Int) = true ∧ cI (flatC C) 3 (k : Int) = true := by
  obtain ⟨g0, g1, g2, g3⟩ := flatC_get C k h
  unfold cI
  rw [show ((k : Nat) : Int).toNat = k from rfl, Nat.zero_add, Nat.add_zero, g0, g1, g2, g3]
  exact ⟨rfl, rfl, rfl, rfl⟩
theorem kB_pre (C : List Cy) (x a : Int) (k : Nat) : (List.range (k + 1)).all (fun q => !hitB C x a q) = ((List.range k).all (fun q => !hitB C x a q) && !hitB C x a k) := by
  rw [List.range_succ, List.all_append]; simp
theorem rI_ok {P : List Pt} {C : List Cy} {x : Int} {j : Nat} (hP : P.length < 1000000) (hC : C.length < 1000000) (hj : j < P.length) : rI (flatP P) (flatC C) P.length C.length x (j : Int) (rr33 (flatP P) (flatC C) C.length x (j : Int)) := by
  have hok := okP_flat hP
  have hb := bnd_t (cap := P.length) hj (Nat.le_refl _)
  have hc := cA_t hok hj
  refine ⟨C.length + 1, ?_⟩
  have key := run_all (step := st33i (flatP P) (flatC C) P.length C.length x (j : Int) 0) (st := fun k => (((k : Nat) : Int), (List.range k).all fun q => !hitB C x (pA (flatP P) j) q)) (a := 0) C.length (fun k hk => ?_) ?_
  · exact key
  · obtain ⟨c0, c1, c2, c3⟩ := cI_t hk
    have hbk := bnd_t (cap := C.length) hk (Nat.le_refl _)
    have hhit : ∀ b, (hit33 (flatC C) C.length x 0 ((k : Int), b)).sel = some (.inl (((k + 1 : Nat) : Int), b && !decide (szC (pC (flatC C) 2 k) (pC (flatC C) 3 k) < x))) := fun b => by
      unfold hit33
      dsimp only
      rw [askS_sel hbk, askS_sel c3, askS_sel hbk, askS_sel c2, show ((k : Nat) : Int).toNat = k from rfl, wsucc (by omega)]
      by_cases hs : szC (pC (flatC C) 2 k) (pC (flatC C) 3 k) < x
      · rw [br_t (by rw [ltF_eq]; exact decide_eq_true hs), decide_eq_true hs]; simp [SS.sel]
      · rw [br_f (by rw [ltF_eq]; exact decide_eq_false hs), decide_eq_false hs]; simp [SS.sel]
    rw [kB_pre]
    unfold st33i
    dsimp only
    rw [br_t (by rw [ltF_eq]; exact decide_eq_true (by omega)), askS_sel hbk, askS_sel c0, askS_sel hb, askS_sel hc, show ((k : Nat) : Int).toNat = k from rfl, show ((j : Nat) : Int).toNat = j from rfl]
    unfold hitB
    by_cases h0 : pC (flatC C) 0 k = pA (flatP P) j
    · rw [br_t (by rw [eqF_d]; exact decide_eq_true h0), hhit, decide_eq_true h0]; simp
    · rw [br_f (by rw [eqF_d]; exact decide_eq_false h0), decide_eq_false h0, askS_sel hbk, askS_sel c1, askS_sel hb, askS_sel hc]
      by_cases h1 : pC (flatC C) 1 k = pA (flatP P) j
      · rw [br_t (by rw [eqF_d]; exact decide_eq_true h1), hhit, decide_eq_true h1]; simp
      · rw [br_f (by rw [eqF_d]; exact decide_eq_false h1), decide_eq_false h1, wsucc (by omega)]; simp [SS.sel]
  · unfold st33i
    dsimp only
    rw [br_f (by rw [ltF_eq]; simp)]; rfl
theorem kB_in {P : List Pt} {C : List Cy} {x : Int} {j : Nat} (hj : j < P.length) : kB (flatP P) (flatC C) C.length x (j : Int) = !inC x C P[j].1 := by
  obtain ⟨_, hp⟩ := el_eq hj
  have e : kB (flatP P) (flatC C) C.length x (j : Int) = (List.range C.length).all fun k => !hitB C x P[j].1 k := by
    unfold kB hitB
    rw [show ((j : Nat) : Int).toNat = j from rfl, hp]
  rw [e, Bool.eq_iff_iff, List.all_eq_true, Bool.not_eq_true']
  unfold inC
  rw [List.any_eq_false]
  constructor
  · intro h q hq
    obtain ⟨k, hk, rfl⟩ := List.getElem_of_mem hq
    have := h k (List.mem_range.2 hk)
    obtain ⟨p0, p1, p2⟩ := pC_t hk
    unfold hitB at this
    rw [p0, p1, p2] at this
    simp only [Bool.not_eq_true', Bool.and_eq_false_iff, Bool.or_eq_false_iff, decide_eq_false_iff_not] at this
    simp only [Bool.and_eq_true, Bool.or_eq_true, decide_eq_true_eq, not_and, not_or]
    rcases this with ⟨a1, a2⟩ | a3
    · exact fun _ => ⟨fun e => a1 e.symm, fun e => a2 e.symm⟩
    · exact fun e => absurd e a3
  · intro h k hk
    have hk := List.mem_range.1 hk
    have := h C[k] (List.getElem_mem hk)
    obtain ⟨p0, p1, p2⟩ := pC_t hk
    unfold hitB
    rw [p0, p1, p2]
    simp only [Bool.not_eq_true', Bool.and_eq_false_iff, Bool.or_eq_false_iff, decide_eq_false_iff_not]
    simp only [Bool.and_eq_true, Bool.or_eq_true, decide_eq_true_eq, not_and, not_or] at this
    by_cases hs : szY C[k] < x
    · exact .inl ⟨fun e => (this hs).1 e.symm, fun e => (this hs).2 e.symm⟩
    · exact .inr hs
def kS2 (f : Pt → Bool) (P : List Pt) (j : Nat) : KS := match (P.take j).filter f with
  | [] => .z j
  | q :: L => .m j (L.length + 1) (flatP (q :: L))
theorem run33 {step : KS → SS KS} {P : List Pt} {f : Pt → Bool} (hn : P.length < 1000000)
    (hz : ∀ (j : Nat) (h : j < P.length), (step (.z j)).sel = some (.inl (if f P[j] = true then .m ((j + 1 : Nat) : Int) 1 (flatP [P[j]]) else .z ((j + 1 : Nat) : Int))))
    (hm : ∀ (j l : Nat) (out : List Value) (h : j < P.length), full2 l out = true → (step (.m j l out)).sel = some (.inl (if f P[j] = true then .m ((j + 1 : Nat) : Int) (l + 1) (out ++ flatP [P[j]]) else .m ((j + 1 : Nat) : Int) l out)))
    (ez : (step (.z (P.length : Nat))).sel = some (.inr 0)) (em : ∀ l out, (step (.m (P.length : Nat) l out)).sel = some (.inr 0)) : runS step (P.length + 1) (.z 0) = some (0, kS2 f P P.length) := by
  have key := run_all (step := step) (st := kS2 f P) (a := 0) P.length (fun j hj => ?_) ?_
  · exact key
  · have hlen : ((P.take j).filter f).length ≤ j := Nat.le_trans (List.length_filter_le _ _) (by rw [List.length_take]; omega)
    have ht : (P.take (j + 1)).filter f = (P.take j).filter f ++ (if f P[j] = true then [P[j]] else []) := by
      rw [List.take_add_one, List.getElem?_eq_getElem hj, List.filter_append]
      congr 1
      show [P[j]].filter f = _
      by_cases hb : f P[j] = true
      · rw [if_pos hb]; simp [hb]
      · rw [if_neg hb]; simp [hb]
    unfold kS2
    rw [ht]
    cases hk : (P.take j).filter f with
    | nil =>
      dsimp only
      rw [hz j hj]
      by_cases hb : f P[j] = true
      · rw [if_pos hb, if_pos hb]; rfl
      · rw [if_neg hb, if_neg hb]; rfl
    | cons q L =>
      rw [hk] at hlen
      dsimp only
      rw [hm j _ _ hj (full2_t (by rw [flatP_len]; rfl) (by simp at hlen; omega))]
      by_cases hb : f P[j] = true
      · rw [if_pos hb, if_pos hb, ← flatP_app]
        simp
      · rw [if_neg hb, if_neg hb]; simp
  · unfold kS2
    cases (P.take P.length).filter f with
    | nil => exact ez
    | cons q L => exact em _ _
theorem run33t {P : List Pt} {C : List Cy} {x : Int} (hP : P.length < 1000000) (hC : C.length < 1000000) : runS (st33 (flatP P) (flatC C) P.length C.length x) (P.length + 1) (.z 0) = some (0, kS2 (fun p => !inC x C p.1) P P.length) := by
  have hok := okP_flat hP
  refine run33 hP (fun j hj => ?_) (fun j l out hj hf => ?_) ?_ (fun l out => ?_)
  · obtain ⟨e1, _⟩ := el_eq hj
    unfold st33
    rw [br_t (by rw [ltF_eq]; exact decide_eq_true (by omega)), askS_sel (tru_iff.2 (rI_ok hP hC hj)), askS_sel rfl, kB_in hj, wsucc (by omega), e1]
    cases hb : inC x C P[j].1 with
    | true => rw [br_f (by rfl), if_neg (by simp)]; rfl
    | false => rw [br_t (by rfl), askS_sel (bnd_t hj (Nat.le_refl _)), askS_sel (cP_t hok hj), if_pos (by simp)]; rfl
  · obtain ⟨e1, _⟩ := el_eq hj
    unfold st33
    rw [br_t (by rw [ltF_eq]; exact decide_eq_true (by omega)), askS_sel (tru_iff.2 (rI_ok hP hC hj)), askS_sel rfl, kB_in hj, wsucc (by omega), e1]
    cases hb : inC x C P[j].1 with
    | true => rw [br_f (by rfl), if_neg (by simp)]; rfl
    | false => rw [br_t (by rfl), askS_sel (bnd_t hj (Nat.le_refl _)), askS_sel (cP_t hok hj), askS_sel hf, if_pos (by simp)]; rfl
  · unfold st33
    rw [br_f (by rw [ltF_eq]; simp)]; rfl
  · unfold st33
    rw [br_f (by rw [ltF_eq]; simp)]; rfl
section
variable (cs : List Value) (n : Nat) (x : Int) (t s : Nat) (ex : Bool)
def td33f : KS → Go.Ex.Told
  | .z j => ⟨[(0, sl 1 0 n n), (1, i x), (5, .slice none 0 0), (7, .slice none 0 0), (8, i j)], [(.dead, false), (.cells cs t s ex, true), (.dead, false)]⟩
  | .m j l out => ⟨[(0, sl 1 0 n n), (1, i x), (5, .slice none 0 0), (7, sl 3 0 l l), (8, i j)], [(.dead, false), (.cells cs t s ex, true), (.dead, false), (.cells out 70 2 false, true)]⟩
def fd33f : KS → Go.Ex.Told
  | .z _ => ⟨[(7, .slice none 0 0)], [(.dead, false), (.cells cs t s ex, true), (.dead, false)]⟩
  | .m _ l out => ⟨[(7, sl 3 0 l l)], [(.dead, false), (.cells cs t s ex, true), (.dead, false), (.cells out 70 2 false, true)]⟩
def S33f : Shape KS := ⟨76, td33f cs n x t s ex, fun _ q => (.exit 0, fd33f cs t s ex q)⟩
def st33f : KS → SS KS
  | .z j => .br (ltF j n) (askS (bnd_ j n n) <| askS (cP cs j) <| .next 5 [0, 1, 2, 4] (.m (wrapF .i64 (j + 1)) 1 (el cs j))) (.done 3 [0, 1, 2] 0)
  | .m j l out => .br (ltF j n) (askS (bnd_ j n n) <| askS (cP cs j) <| askS (full2 l out) <| .next 6 [0, 1, 2, 5] (.m (wrapF .i64 (j + 1)) (l + 1) (out ++ el cs j))) (.done 4 [0, 1, 2, 3] 0)
noncomputable def C33f : KS → Cfg
  | .z _ => ⟨TX9, at_ [(33, 19)] .bool no_, on_ sy33, noL⟩
  | .m _ _ _ => ⟨TX9, at_ [(33, 19)] .bool no_, on_ ((33, 74) :: (33, 300074) :: sy33), noL⟩
end
section
variable {cs : List Value} {n : Nat} {x : Int} {t s : Nat} {ex : Bool}
theorem td33f_flat (g1 : cs.all Ex.flat = true) {q : KS} (hq : GdK q) : (td33f cs n x t s ex q).flat ∧ (fd33f cs t s ex q).flat := by
  cases q with
  | z j =>
    have : ∀ o, (o, true) ∈ [(CO.dead, false), (.cells cs t s ex, true), (.dead, false)] → FlatO o := fun o ho => by
      simp at ho; subst ho; exact fun x hx => List.all_eq_true.1 g1 x hx
    exact ⟨this, this⟩
  | m j l out =>
    have : ∀ o, (o, true) ∈ [(CO.dead, false), (.cells cs t s ex, true), (.dead, false), (.cells out 70 2 false, true)] → FlatO o := fun o ho => by
      simp at ho
      rcases ho with rfl | rfl
      · exact fun x hx => List.all_eq_true.1 g1 x hx
      · exact fun x hx => List.all_eq_true.1 hq x hx
    exact ⟨this, this⟩
theorem good33f : ∀ q q', GdK q → (st33f cs n q).sel = some (.inl q') → GdK q' := by
  intro q q' hg h
  cases q with
  | z j =>
    rcases br_or' h with h | h
    · have h := ask_or' (ask_or' h); cases h; rfl
    · cases h
  | m j l out =>
    rcases br_or' h with h | h
    · have h := ask_or' (ask_or' (ask_or' h)); cases h; exact app_flat hg rfl
    · cases h
theorem L33f (g1 : cs.all Ex.flat = true) : Loop1 Try.prog 2 33 B33 (S33f cs n x t s ex) 3 (st33f cs n) GdK :=
  .mk' (C := C33f) (n := 60) (fun q _ => by cases q <;> exact tsX9) (fun q _ => by cases q <;> exact .none)
    (fun q ro _ => by cases q <;> kernel_rfl) (fun q ro _ => by cases q <;> kernel_rfl) (fun q => by cases q <;> kernel_rfl) good33f
    (fun _ hq => (td33f_flat g1 hq).1) (fun _ _ hq _ => ⟨(td33f_flat (n := n) (x := x) g1 hq).2, fun h => by cases h⟩)
end
theorem run33f {P : List Pt} (hP : P.length < 1000000) : runS (st33f (flatP P) P.length) (P.length + 1) (.z 0) = some (0, kS2 (fun _ => true) P P.length) := by
  have hok := okP_flat hP
  refine run33 hP (fun j hj => ?_) (fun j l out hj hf => ?_) ?_ (fun l out => ?_)
  · obtain ⟨e1, _⟩ := el_eq hj
    unfold st33f
    rw [br_t (by rw [ltF_eq]; exact decide_eq_true (by omega)), wsucc (by omega), e1, askS_sel (bnd_t hj (Nat.le_refl _)), askS_sel (cP_t hok hj), if_pos rfl]; rfl
  · obtain ⟨e1, _⟩ := el_eq hj
    unfold st33f
    rw [br_t (by rw [ltF_eq]; exact decide_eq_true (by omega)), wsucc (by omega), e1, askS_sel (bnd_t hj (Nat.le_refl _)), askS_sel (cP_t hok hj), askS_sel hf, if_pos rfl]; rfl
  · unfold st33f
    rw [br_f (by rw [ltF_eq]; simp)]; rfl
  · unfold st33f
    rw [br_f (by rw [ltF_eq]; simp)]; rfl
end Go.Proofs.Ytphadgdlknhbnaa.Ways
set_option maxRecDepth 10000
noncomputable section
namespace Go.Proofs.Ytphadgdlknhbnaa.Ways
open Go Go.Ex Go.RowKit Go.Turn
noncomputable def T33 (f : Bool) : Tb := ext TX9 24 (twoE (sp24 f) [] (heapL deads))
theorem ts33 {G : Nat} (f : Bool) : TSound Try.prog G (T33 f) := tsX9.two (c24 f)
section
variable (cs : List Value) (m : Nat) (x : Int) (t s : Nat) (ex : Bool)
noncomputable def K33t (q : KS) : Cfg := ⟨T33 true, no_, off_, loopE noL 33 4 76 4 B33 ((S33 cs (cyO cs m) (m + 1) (cnt cs (m + 1)).2.length x t s ex).st (.z 0)).live ((S33 cs (cyO cs m) (m + 1) (cnt cs (m + 1)).2.length x t s ex).st (.z 0)).hp (finO (S33 cs (cyO cs m) (m + 1) (cnt cs (m + 1)).2.length x t s ex) (0, q) [0])⟩
noncomputable def K33f (q : KS) : Cfg := ⟨T33 false, no_, off_, loopE noL 33 4 76 3 B33 ((S33f cs (m + 1) x t s ex).st (.z 0)).live ((S33f cs (m + 1) x t s ex).st (.z 0)).hp (finO (S33f cs (m + 1) x t s ex) (0, q) [0])⟩
noncomputable def o33t (q : KS) : Out QRes := execO Try.prog 2 (K33t cs m x t s ex q) 60 (.call 33 ⟨[sl 1 0 (m + 1) (m + 1), i x]⟩ (heapL (deads ++ [.cells cs t s ex])))
noncomputable def o33f (q : KS) : Out QRes := execO Try.prog 2 (K33f cs m x t s ex q) 60 (.call 33 ⟨[sl 1 0 (m + 1) (m + 1), i x]⟩ (heapL (deads ++ [.cells cs t s ex])))
theorem v33tm (j : Int) (l : Nat) (out : List Value) : (o33t cs m x t s ex (.m j l out)).news = aN (tru (P59 true cs (m + 1) (m + 1))) (aN true (.leaf 4 (.sl l l out 70 2 false))) := by kernel_rfl
theorem v33tz (j : Int) : (o33t cs m x t s ex (.z j)).news = aN (tru (P59 true cs (m + 1) (m + 1))) (aN true (.leaf 1000000 (.old (.slice none 0 0)))) := by kernel_rfl
theorem x33t : ∀ q, o33t cs m x t s ex q = (o33t cs m x t s ex q).fix
  | .z _ => by kernel_rfl
  | .m _ _ _ => by kernel_rfl
theorem v33fm (j : Int) (l : Nat) (out : List Value) : (o33f cs m x t s ex (.m j l out)).news = aN (tru (P59 false cs (m + 1) (m + 1))) (aN true (.leaf 3 (.sl l l out 70 2 false))) := by kernel_rfl
theorem x33f : ∀ q, o33f cs m x t s ex q = (o33f cs m x t s ex q).fix
  | .z _ => by kernel_rfl
  | .m _ _ _ => by kernel_rfl
noncomputable def o33z : Out QRes := execO Try.prog 2 ⟨noT, no_, off_, noL⟩ 60 (.call 33 ⟨[sl 1 0 0 0, i x]⟩ (heapL (deads ++ [.cells cs t s ex])))
theorem v33z : (o33z cs x t s ex).news = .leaf 1000000 (.old (.slice none 0 0)) := by kernel_rfl
theorem x33z : o33z cs x t s ex = (o33z cs x t s ex).fix := by kernel_rfl
end
theorem n33t {cs : List Value} {m : Nat} {x : Int} {t s : Nat} {ex : Bool} {b : Nat} {q : KS} {r : NRes} (hL : LSound Try.prog 2 (K33t cs m x t s ex q).L)
    (h : (o33t cs m x t s ex q).news.sel = some (b, r)) (hb : 2 ≤ b) (hfl : r.Fl) : r.Ok Try.prog 33 [sl 1 0 (m + 1) (m + 1), i x] deads [.cells cs t s ex] 2 :=
  news_ok (C := K33t cs m x t s ex q) (n := 60) (ts33 true) hL (x33t cs m x t s ex q) h hb hfl
theorem n33f {cs : List Value} {m : Nat} {x : Int} {t s : Nat} {ex : Bool} {b : Nat} {q : KS} {r : NRes} (hL : LSound Try.prog 2 (K33f cs m x t s ex q).L)
    (h : (o33f cs m x t s ex q).news.sel = some (b, r)) (hb : 2 ≤ b) (hfl : r.Fl) : r.Ok Try.prog 33 [sl 1 0 (m + 1) (m + 1), i x] deads [.cells cs t s ex] 2 :=
  news_ok (C := K33f cs m x t s ex q) (n := 60) (ts33 false) hL (x33f cs m x t s ex q) h hb hfl
def R33 (L : List Pt) : NRes := match L with
  | [] => .old (.slice none 0 0)
  | q :: r => .sl (r.length + 1) (r.length + 1) (flatP (q :: r)) 70 2 false
theorem R33_fl (L : List Pt) : (R33 L).Fl := by
  cases L with
  | nil => exact rfl
  | cons _ _ => exact flatP_flat _
def sp33_ (f : Bool) : NSpec := fun al css => match al, css with
  | [.slice (some ⟨1, 0, none⟩) (m + 1) (m2 + 1), .int .i64 x], [cs] => some (m2 = m ∧ RowE cs (m + 1) ∧ m < 900000 ∧ fq f (cnt cs (m + 1)).2, R33 (FL x (pts cs (m + 1))))
  | [.slice (some ⟨1, 0, none⟩) 0 0, .int .i64 _], [cs] => some (cs.all Ex.flat = true, .old (.slice none 0 0))
  | _, _ => none
theorem c33 (f : Bool) : ∀ al css os p v, sp33_ f al css = some (p, v) → p → Blks css os → (∀ cs ∈ css, cs.all Ex.flat = true) ∧ v.Ok Try.prog 33 al deads os (gl + css.length) := by
  intro al css os p v hs hp hb
  unfold sp33_ at hs
  split at hs
  · rename_i m m2 x cs
    cases hs
    obtain ⟨rfl, h1, hn, hf⟩ := hp
    obtain ⟨t, s, ex, rfl⟩ := blks1 hb
    have hbok := h1.bok
    have hcs := h1.cells
    refine ⟨one_flat hbok.1.1, ?_⟩
    obtain ⟨P, hP⟩ : ∃ P, P = pts cs (m2 + 1) := ⟨_, rfl⟩
    have hl : P.length = m2 + 1 := by rw [hP, pts_len]
    rw [← hP] at hcs
    have hFL : FL x (pts cs (m2 + 1)) = P.filter fun p => !inC x (cnt cs (m2 + 1)).2 p.1 := by
      rw [← hP]; unfold FL; rw [← hcs, hl]
    have hclen : (cnt cs (m2 + 1)).2.length < 1000000 := by have := cnt_len cs (m2 + 1); omega
    have hP59 : P59 f cs (m2 + 1) (m2 + 1) := ⟨hbok.1, by omega, by omega, hf⟩
    cases f with
    | true =>
      have hr : runS (st33 cs (cyO cs m2) (m2 + 1) (cnt cs (m2 + 1)).2.length x) (m2 + 1 + 1) (.z 0) = some (0, kS2 (fun p => !inC x (cnt cs (m2 + 1)).2 p.1) P (m2 + 1)) := by
        have := run33t (P := P) (C := (cnt cs (m2 + 1)).2) (x := x) (by omega) hclen
        rwa [hl, ← hcs] at this
      have hL : ∀ q, q = kS2 (fun p => !inC x (cnt cs (m2 + 1)).2 p.1) P (m2 + 1) → LSound Try.prog 2 (K33t cs m2 x t s ex q).L := fun q hq => by
        subst hq
        exact (L33 (cs := cs) (cy := cyO cs m2) (n := m2 + 1) (lc := (cnt cs (m2 + 1)).2.length) (x := x) (t := t) (s := s) (ex := ex) hbok.1.1 (flatC_flat _)).table (id := 4) (s0 := .z 0) .none (by decide) trivial hr (by kernel_rfl) [0]
      have he : (P.take (m2 + 1)).filter (fun p => !inC x (cnt cs (m2 + 1)).2 p.1) = FL x (pts cs (m2 + 1)) := by rw [← hl, List.take_length, hl, hFL]
      show (R33 (FL x (pts cs (m2 + 1)))).Ok _ _ _ _ _ _
      cases hF : FL x (pts cs (m2 + 1)) with
      | nil =>
        have hk : kS2 (fun p => !inC x (cnt cs (m2 + 1)).2 p.1) P (m2 + 1) = .z ((m2 + 1 : Nat) : Int) := by unfold kS2; rw [he, hF]
        exact n33t (hL _ hk.symm) (by rw [v33tz, aN_sel (tru_iff.2 hP59), aN_sel rfl]; rfl) (show 2 ≤ 1000000 by decide) (R33_fl [])
      | cons q r =>
        have hk : kS2 (fun p => !inC x (cnt cs (m2 + 1)).2 p.1) P (m2 + 1) = .m ((m2 + 1 : Nat) : Int) (r.length + 1) (flatP (q :: r)) := by unfold kS2; rw [he, hF]
        exact n33t (hL _ hk.symm) (by rw [v33tm, aN_sel (tru_iff.2 hP59), aN_sel rfl]; rfl) (show 2 ≤ 4 by decide) (R33_fl (q :: r))
    | false =>
      have hC : (cnt cs (m2 + 1)).2 = [] := hf
      have hr : runS (st33f cs (m2 + 1)) (m2 + 1 + 1) (.z 0) = some (0, kS2 (fun _ => true) P (m2 + 1)) := by
        have := run33f (P := P) (by omega)
        rwa [hl, ← hcs] at this
      have hL : ∀ q, q = kS2 (fun _ => true) P (m2 + 1) → LSound Try.prog 2 (K33f cs m2 x t s ex q).L := fun q hq => by
        subst hq
        exact (L33f (cs := cs) (n := m2 + 1) (x := x) (t := t) (s := s) (ex := ex) hbok.1.1).table (id := 4) (s0 := .z 0) .none (by decide) trivial hr (by kernel_rfl) [0]
      have he : (P.take (m2 + 1)).filter (fun _ => true) = FL x (pts cs (m2 + 1)) := by
        rw [← hl, List.take_length, hl, hFL, hC]
        exact List.filter_congr fun p _ => rfl
      show (R33 (FL x (pts cs (m2 + 1)))).Ok _ _ _ _ _ _
      cases hF : FL x (pts cs (m2 + 1)) with
      | nil =>
        rw [hF] at he
        have h0 := congrArg List.length he
        rw [← hl, List.take_length, List.filter_eq_self.2 (fun _ _ => rfl), hl] at h0
        exact absurd h0 (by simp)
      | cons q r =>
        have hk : kS2 (fun _ => true) P (m2 + 1) = .m ((m2 + 1 : Nat) : Int) (r.length + 1) (flatP (q :: r)) := by unfold kS2; rw [he, hF]
        exact n33f (hL _ hk.symm) (by rw [v33fm, aN_sel (tru_iff.2 hP59), aN_sel rfl]; rfl) (show 2 ≤ 3 by decide) (R33_fl (q :: r))
  · rename_i x cs
    cases hs
    obtain ⟨t, s, ex, rfl⟩ := blks1 hb
    refine ⟨one_flat hp, ?_⟩
    exact news_ok (C := ⟨noT, no_, off_, noL⟩) (n := 60) .none .none (x33z cs x t s ex) (b := 1000000) ((congrArg NT.sel (v33z cs x t s ex)).trans rfl) (show 2 ≤ 1000000 by decide) (show NRes.Fl (.old (.slice none 0 0)) from rfl)
  · cases hs
end Go.Proofs.Ytphadgdlknhbnaa.Ways
set_option maxRecDepth 10000
noncomputable section
namespace Go.Proofs.Ytphadgdlknhbnaa.Ways
open Go Go.Ex Go.RowKit Go.Turn
theorem firstF_z0 {e : Nat → Int} : ∀ {n s : Nat}, (∀ j, j < n → e (s + j) = 0) → firstF e n s = 0
  | 0, _, _ => rfl
  | n + 1, s, h => by
    unfold firstF
    rw [if_neg (fun hh => hh (by have := h 0 (by omega); rwa [Nat.add_zero] at this))]
    exact firstF_z0 fun j hj => by have := h (j + 1) (by omega); rwa [show s + (j + 1) = s + 1 + j from by omega] at this
theorem firstF_one {e : Nat → Int} {c : Int} : ∀ {n s : Nat}, (∀ j, j < n → e (s + j) = 0 ∨ e (s + j) = c) → (∃ j, j < n ∧ e (s + j) ≠ 0) → firstF e n s = c
  | 0, _, _, ⟨j, hj, _⟩ => by omega
  | n + 1, s, h, ⟨j, hj, he⟩ => by
    unfold firstF
    have h0 := h 0 (by omega)
    rw [Nat.add_zero] at h0
    by_cases h1 : e s = 0
    · rw [if_neg (fun hh => hh h1)]
      refine firstF_one (fun q hq => ?_) ?_
      · have := h (q + 1) (by omega); rwa [show s + (q + 1) = s + 1 + q from by omega] at this
      · cases j with
        | zero => rw [Nat.add_zero] at he; exact absurd h1 he
        | succ j => exact ⟨j, by omega, by rwa [show s + (j + 1) = s + 1 + j from by omega] at he⟩
    · rw [if_pos h1]
      rcases h0 with h0 | h0
      · exact absurd h0 h1
      · exact h0
theorem firstF_all {e : Nat → Int} : ∀ {n s : Nat}, firstF e n s = 0 → ∀ j, j < n → e (s + j) = 0
  | 0, _, _, j, hj => by omega
  | n + 1, s, h, j, hj => by
    unfold firstF at h
    by_cases h1 : e s = 0
    · rw [if_neg (fun hh => hh h1)] at h
      cases j with
      | zero => exact h1
      | succ j => have := firstF_all h j (by omega); rwa [show s + 1 + j = s + (j + 1) from by omega] at this
    · rw [if_pos h1] at h; exact absurd h h1
theorem ixE_eq (x : Int) : ixE x = if 0 ≤ x ∧ x ≤ 39999 then 0 else 3 := rfl
theorem orE_eq (a c : Int) : orE a c = if a < c then 0 else 11 := by
  unfold orE
  rw [ltF_eq]
  by_cases h : a < c
  · rw [decide_eq_true h, if_pos h]; rfl
  · rw [decide_eq_false h, if_neg h]; rfl
structure Rise (P : List Pt) : Prop where
  len : P.length < 900000
  lo : ∀ j (h : j < P.length), 0 ≤ P[j].1 ∧ P[j].1 ≤ 39999
  up : ∀ j (h : j + 1 < P.length), P[j].1 < P[j + 1].1
theorem Rise.mono {P : List Pt} (h : Rise P) : ∀ (k j : Nat) (hk : j + k < P.length), P[j].1 + k ≤ P[j + k].1
  | 0, j, hk => by simp
  | k + 1, j, hk => by
    have h1 := h.mono k j (by omega)
    have h2 := h.up (j + k) (by omega)
    have e : j + (k + 1) = j + k + 1 := by omega
    simp only [e]
    omega
theorem Rise.le_last {P : List Pt} (h : Rise P) {j : Nat} (hj : j < P.length) : P[j].1 ≤ (P[P.length - 1]'(by omega)).1 := by
  have := h.mono (P.length - 1 - j) j (by omega)
  have e : j + (P.length - 1 - j) = P.length - 1 := by omega
  simp only [e] at this
  omega
theorem pA_fl {P : List Pt} {j : Nat} (h : j < P.length) : pA (flatP P) j = P[j].1 := (el_eq h).2
theorem rise_of {cs : List Value} {n : Nat} (h : RowE cs n) (hc : crE cs n = 0) : Rise (pts cs n) := by
  obtain ⟨P, rfl, rfl, hn⟩ := h
  rw [pts_flat P _ (Nat.le_refl _), List.take_length]
  unfold crE at hc
  by_cases hl : 40000 < P.length
  · rw [if_pos hl] at hc; cases hc
  rw [if_neg hl] at hc
  have ha : ∀ j, j < P.length → e18 (flatP P) j = 0 := fun j hj => by have := firstF_all hc j hj; rwa [Nat.zero_add] at this
  have hb : ∀ j, j < P.length → rvE (pA (flatP P) j) (pB (flatP P) j) = 0 ∧ cbE (flatP P) j (pA (flatP P) j) (pB (flatP P) j) = 0 := fun j hj => by
    have h1 := ha j hj
    rw [e18_eq] at h1
    by_cases h2 : rvE (pA (flatP P) j) (pB (flatP P) j) = 0
    · rw [if_neg (fun hh => hh h2)] at h1; exact ⟨h2, h1⟩
    · rw [if_pos h2] at h1; exact absurd h1 h2
  refine ⟨by omega, fun j hj => ?_, fun j hj => ?_⟩
  · have h1 := (hb j hj).1
    unfold rvE at h1
    rw [fst2_eq] at h1
    by_cases h2 : ixE (pA (flatP P) j) = 0
    · rw [ixE_eq, pA_fl hj] at h2
      by_cases h3 : 0 ≤ P[j].1 ∧ P[j].1 ≤ 39999
      · exact h3
      · rw [if_neg h3] at h2; cases h2
    · rw [if_pos h2] at h1; exact absurd h1 h2
  · have h1 := (hb (j + 1) hj).2
    unfold cbE at h1
    rw [pA_fl hj, Nat.add_sub_cancel, pA_fl (by omega : j < P.length)] at h1
    by_cases h2 : P[j].1 < P[j + 1].1
    · exact h2
    · exfalso
      rw [if_neg (by omega), if_pos (by omega)] at h1
      cases h1
theorem rgE_zero {x lo hi : Int} (h : rgE x lo hi = 0) : lo ≤ x ∧ x ≤ hi := by
  unfold rgE at h
  by_cases h1 : lo ≤ x ∧ x ≤ hi
  · exact h1
  · rw [if_neg h1] at h; cases h
theorem shP_eq {d : Int} {p : Pt} (h0 : 0 ≤ p.1 ∧ p.1 ≤ 39999) (hd : 0 ≤ d ∧ d ≤ 40000) : (shP d p).1 = p.1 + d := by
  show wrapF .i64 (p.1 + d) = _
  exact wrapF_in (by omega) (by omega)
theorem eJ_join {P Q : List Pt} {d : Int} (hP : Rise P) (hQ : Rise Q) (hd : 0 ≤ d ∧ d ≤ 40000) : eJ (P ++ Q.map (shP d)) = if 0 < Q.length ∧ 39999 < pA (flatP Q) (Q.length - 1) + d then 3 else if 0 < P.length ∧ 0 < Q.length ∧ pA (flatP Q) 0 + d ≤ pA (flatP P) (P.length - 1) then 11 else 0 := by
  obtain ⟨X, hX⟩ : ∃ X, X = P ++ Q.map (shP d) := ⟨_, rfl⟩
  have hlen : X.length = P.length + Q.length := by rw [hX, List.length_append, List.length_map]
  have hl1 := hP.len
  have hl2 := hQ.len
  have hx1 : ∀ j (h : j < P.length), pA (flatP X) j = P[j].1 := fun j h => by
    rw [pA_fl (by omega)]
    simp only [hX]
    rw [List.getElem_append_left h]
  have hx2 : ∀ j (h : j < Q.length), pA (flatP X) (P.length + j) = Q[j].1 + d := fun j h => by
    rw [pA_fl (by omega)]
    simp only [hX]
    rw [List.getElem_append_right (by omega)]
    simp only [Nat.add_sub_cancel_left, List.getElem_map]
    exact shP_eq (hQ.lo j h) hd
  have hor : ∀ a c, orE a c = 0 ∨ orE a c = 11 := fun a c => by rw [orE_eq]; split <;> simp
  have hix : ∀ x, ixE x = 0 ∨ ixE x = 3 := fun x => by rw [ixE_eq]; split <;> simp
  rw [← hX]
  unfold eJ
  rw [fst2_eq]
  by_cases h3 : 0 < Q.length ∧ 39999 < pA (flatP Q) (Q.length - 1) + d
  · rw [if_pos h3]
    have hlast : pA (flatP X) (P.length + (Q.length - 1)) = pA (flatP Q) (Q.length - 1) + d := by rw [hx2 _ (by omega), pA_fl (by omega)]
    have : firstF (eIx (flatP X)) X.length 0 = 3 := firstF_one (fun _ _ => hix _) ⟨P.length + (Q.length - 1), by omega, by
      rw [Nat.zero_add]
      unfold eIx
      rw [hlast, ixE_eq, if_neg (by omega)]; decide⟩
    rw [this, if_pos (by decide)]
  · rw [if_neg h3]
    have hin : ∀ j (h : j < Q.length), 0 ≤ Q[j].1 + d ∧ Q[j].1 + d ≤ 39999 := fun j h => by
      have h1 := hQ.le_last h
      have h2 := hQ.lo j h
      have h4 : ¬ 39999 < pA (flatP Q) (Q.length - 1) + d := fun hh => h3 ⟨by omega, hh⟩
      rw [pA_fl (by omega : Q.length - 1 < Q.length)] at h4
      omega
    have hA : firstF (eIx (flatP X)) X.length 0 = 0 := firstF_z0 fun j hj => by
      rw [Nat.zero_add]
      unfold eIx
      rw [ixE_eq]
      by_cases hj1 : j < P.length
      · rw [hx1 j hj1, if_pos (hP.lo j hj1)]
      · obtain ⟨q, rfl⟩ : ∃ q, j = P.length + q := ⟨j - P.length, by omega⟩
        rw [hx2 q (by omega), if_pos (hin q (by omega))]
    rw [hA, if_neg (fun h => h rfl)]
    have hgood : ∀ j, j < X.length → ¬ (j = P.length ∧ 0 < P.length) → eOr (-1) (flatP X) j = 0 := fun j hj hne => by
      unfold eOr pvA
      rw [orE_eq]
      by_cases h0 : j = 0
      · rw [if_pos h0]
        subst h0
        by_cases hj1 : 0 < P.length
        · rw [hx1 0 hj1, if_pos (by have := (hP.lo 0 hj1).1; omega)]
        · have e := hx2 0 (by omega)
          rw [show P.length + 0 = 0 from by omega] at e
          rw [e, if_pos (by have := (hin 0 (by omega)).1; omega)]
      · rw [if_neg h0]
        by_cases hj1 : j < P.length
        · rw [hx1 j hj1, hx1 (j - 1) (by omega), if_pos (by
            have := hP.up (j - 1) (by omega)
            simp only [show j - 1 + 1 = j from by omega] at this
            exact this)]
        · obtain ⟨q, rfl⟩ : ∃ q, j = P.length + q := ⟨j - P.length, by omega⟩
          have hq : 0 < q := by
            rcases Nat.eq_zero_or_pos q with rfl | h
            · exact absurd ⟨rfl, by omega⟩ hne
            · exact h
          rw [show P.length + q - 1 = P.length + (q - 1) from by omega, hx2 q (by omega), hx2 (q - 1) (by omega), if_pos (by
            have := hQ.up (q - 1) (by omega)
            simp only [show q - 1 + 1 = q from by omega] at this
            omega)]
    by_cases h11 : 0 < P.length ∧ 0 < Q.length ∧ pA (flatP Q) 0 + d ≤ pA (flatP P) (P.length - 1)
    · rw [if_pos h11]
      have hB : firstF (eOr (-1) (flatP X)) X.length 0 = 11 := firstF_one (fun _ _ => hor _ _) ⟨P.length, by omega, by
        rw [Nat.zero_add]
        unfold eOr pvA
        rw [if_neg (by omega)]
        have e := hx2 0 (by omega)
        rw [Nat.add_zero] at e
        rw [e, hx1 (P.length - 1) (by omega), orE_eq, if_neg (by
          have := h11.2.2
          rw [pA_fl (by omega), pA_fl (by omega)] at this
          omega)]
        decide⟩
      rw [hB, if_pos (by decide)]
    · rw [if_neg h11]
      have hB : firstF (eOr (-1) (flatP X)) X.length 0 = 0 := firstF_z0 fun j hj => by
        rw [Nat.zero_add]
        by_cases hne : j = P.length ∧ 0 < P.length
        · obtain ⟨rfl, hp⟩ := hne
          unfold eOr pvA
          rw [if_neg (by omega)]
          have e := hx2 0 (by omega)
          rw [Nat.add_zero] at e
          rw [e, hx1 (P.length - 1) (by omega), orE_eq, if_pos (by
            have : ¬ pA (flatP Q) 0 + d ≤ pA (flatP P) (P.length - 1) := fun hh => h11 ⟨hp, by omega, hh⟩
            rw [pA_fl (by omega), pA_fl (by omega)] at this
            omega)]
        · exact hgood j hj hne
      rw [hB]; rfl
end Go.Proofs.Ytphadgdlknhbnaa.Ways
