import Derived.Test.YteemponkignnhaaGreatLc5
set_option maxRecDepth 10000
noncomputable section
namespace Go.Proofs.YteemponkignnhaaGreat.Ways
open Go Go.Ex Go.RowKit Go.Turn
theorem p96 (b : Bool) : Pure Tryz.prog Hd 104 [b_ b] (i (cond b 0 11)) := by
  refine pure_run (C := ⟨noT, at_ [(62, 5)] .bool no_, off_, noL⟩) (G := 1) 30 (.br b (.leaf (i 0)) (.leaf (i 11))) .none .none (by decide) hd_len rfl (by kernel_rfl) (by kernel_rfl) ?_
  cases b <;> rfl
def s96 : List Value → Option Value
  | [.bool b] => some (i (cond b 0 11))
  | _ => none
noncomputable def TX0 : Tb := ext T14 104 (pureE s96 [] Hd)
theorem tsX0 {G : Nat} : TSound Tryz.prog G TX0 := TSound.pure hd_vars ts14 fun args v h => by
  unfold s96 at h
  split at h
  · cases h; exact p96 _
  · cases h
theorem p93 (a b : Int) : Pure Tryz.prog Hd 119 [ag [i a, i b]] (i (ixE a)) :=
  pure_run (C := ⟨TX0, no_, off_, noL⟩) (G := 1) 30 (.leaf (i (ixE a))) tsX0 .none (by decide) hd_len rfl (by kernel_rfl) (by kernel_rfl) rfl
def orE (a c : Int) : Int := cond (ltF a c) 0 11
theorem p95 (a b c d : Int) : Pure Tryz.prog Hd 121 [ag [i a, i b], ag [i c, i d]] (i (orE a c)) :=
  pure_run (C := ⟨TX0, no_, off_, noL⟩) (G := 1) 30 (.leaf (i (orE a c))) tsX0 .none (by decide) hd_len rfl (by kernel_rfl) (by kernel_rfl) rfl
def s93 : List Value → Option Value
  | [.agg ⟨[.int .i64 a, .int .i64 _]⟩] => some (i (ixE a))
  | _ => none
def s95 : List Value → Option Value
  | [.agg ⟨[.int .i64 a, .int .i64 _]⟩, .agg ⟨[.int .i64 c, .int .i64 _]⟩] => some (i (orE a c))
  | _ => none
noncomputable def TX1 : Tb := ext (ext TX0 119 (pureE s93 [] Hd)) 121 (pureE s95 [] Hd)
theorem tsX1 {G : Nat} : TSound Tryz.prog G TX1 := by
  refine TSound.pure hd_vars (TSound.pure hd_vars tsX0 fun args v h => ?_) fun args v h => ?_
  · unfold s93 at h
    split at h
    · cases h; exact p93 _ _
    · cases h
  · unfold s95 at h
    split at h
    · cases h; exact p95 _ _ _ _
    · cases h
noncomputable def B92 : Code := bodyL Tryz.f118 2
noncomputable def spX : Nat → Nat → Split := at_ [(118, 11), (118, 18)] .bool no_
def syX : Nat → Nat → Bool := on_ [(118, 12), (118, 13)]
noncomputable def CX1 : Cfg := ⟨TX1, spX, syX, noL⟩
end Go.Proofs.YteemponkignnhaaGreat.Ways
set_option maxRecDepth 10000
noncomputable section
namespace Go.Proofs.YteemponkignnhaaGreat.Ways
open Go Go.Ex Go.RowKit Go.Turn
def eIx (cs : List Value) (j : Nat) : Int := ixE (pA cs j)
def pvA (a : Int) (cs : List Value) (j : Nat) : Int := if j = 0 then a else pA cs (j - 1)
def pvB (b : Int) (cs : List Value) (j : Nat) : Int := if j = 0 then b else pB cs (j - 1)
def eOr (a : Int) (cs : List Value) (j : Nat) : Int := orE (pvA a cs j) (pA cs j)
section
variable (cs : List Value) (t s n c : Nat) (ex : Bool)
def S92 : Shape Int := ⟨21, fun j => ⟨[(1, fn 119), (8, sl 1 0 n c), (9, i n), (10, i j)], hpI cs t s ex⟩, fun k j => match k with
  | 0 => (.exit 0, ⟨[], hpI cs t s ex⟩)
  | _ => (.ret, ⟨[(4, i (eIx cs j.toNat))], hpI cs t s ex⟩)⟩
def st92 (j : Int) : SS Int := .br (ltF j n) (askS (bnd_ j n c) <| askS (cP cs j) <| .br (!eqF (eIx cs j.toNat) 0) (.done 3 [0, 1] 1) (.next 3 [0, 1] (wrapF .i64 (j + 1)))) (.done 2 [0, 1] 0)
noncomputable def K92 (r : Nat × Int) : Cfg := ⟨TX1, spX, syX, loopE noL 118 2 21 2 B92 ((S92 cs t s n c ex).st 0).live ((S92 cs t s n c ex).st 0).hp (finO (S92 cs t s n c ex) r [0, 1])⟩
def vt92 (r : Nat × Int) : VT := .br (Nat.beq r.1 0) (.leaf (i 0)) (.br (Nat.beq r.1 1) (.leaf (i (eIx cs r.2.toNat))) .fail)
noncomputable def o92 (r : Nat × Int) : Out QRes := execO Tryz.prog 2 (K92 cs t s n c ex r) 40 (.call 118 ⟨[sl 1 0 n c, fn 119]⟩ (heapL [.dead, .cells cs t s ex]))
theorem v92 (r : Nat × Int) : (o92 cs t s n c ex r).vals = vt92 cs r := by kernel_rfl
theorem x92 (r : Nat × Int) : o92 cs t s n c ex r = (o92 cs t s n c ex r).fix := by kernel_rfl
def hpW (a b : Int) : List (CO × Bool) := [(.dead, false), (.cells cs t s ex, true), (.dead, false), (.cells [fn 121] 163 1 true, true), (.cells [i a, i b] 114 1 true, true)]
def hpE : List (CO × Bool) := [(.dead, false), (.cells cs t s ex, true), (.dead, false), (.dead, false), (.dead, false)]
def S94 : Shape (Int × Int × Int) := ⟨21, fun q => ⟨[(1, fnc 130 [pt 3 0, pt 4 0]), (8, sl 1 0 n c), (9, i n), (10, i q.1)], hpW cs t s ex q.2.1 q.2.2⟩, fun k q => match k with
  | 0 => (.exit 0, ⟨[], hpE cs t s ex⟩)
  | _ => (.ret, ⟨[(4, i (orE q.2.1 (pA cs q.1.toNat)))], hpE cs t s ex⟩)⟩
def st94 (q : Int × Int × Int) : SS (Int × Int × Int) := .br (ltF q.1 n) (askS (bnd_ q.1 n c) <| askS (cP cs q.1) <| .br (!eqF (orE q.2.1 (pA cs q.1.toNat)) 0) (.done 7 [0, 1, 2, 3, 4] 1) (.next 7 [0, 1, 2, 3, 4] (wrapF .i64 (q.1 + 1), pA cs q.1.toNat, pB cs q.1.toNat))) (.done 5 [0, 1, 2, 3, 4] 0)
noncomputable def K94 (a b : Int) (r : Nat × Int × Int × Int) : Cfg := ⟨TX1, spX, syX, loopE noL 118 2 21 5 B92 ((S94 cs t s n c ex).st (0, a, b)).live ((S94 cs t s n c ex).st (0, a, b)).hp (finO (S94 cs t s n c ex) r [0, 1])⟩
noncomputable def o94 (a b : Int) (r : Nat × Int × Int × Int) : Out QRes := execO Tryz.prog 2 (K94 cs t s n c ex a b r) 60 (.call 120 ⟨[sl 1 0 n c, ag [i a, i b], fn 121]⟩ (heapL [.dead, .cells cs t s ex]))
def vt94 (r : Nat × Int × Int × Int) : VT := .br (Nat.beq r.1 0) (.leaf (i 0)) (.br (Nat.beq r.1 1) (.leaf (i (orE r.2.2.1 (pA cs r.2.1.toNat)))) .fail)
theorem v94 (a b : Int) (r : Nat × Int × Int × Int) : (o94 cs t s n c ex a b r).vals = vt94 cs r := by kernel_rfl
theorem x94 (a b : Int) (r : Nat × Int × Int × Int) : o94 cs t s n c ex a b r = (o94 cs t s n c ex a b r).fix := by kernel_rfl
end
section
variable {cs : List Value} {t s n c : Nat} {ex : Bool}
theorem L92 (h : cs.all Ex.flat = true) : Loop1 Tryz.prog 2 118 B92 (S92 cs t s n c ex) 2 (st92 cs n c) (fun _ => True) :=
  .mk' (C := fun _ => CX1) (n := 40) (fun _ _ => tsX1) (fun _ _ => .none) (fun s ro _ => by kernel_rfl) (fun s ro _ => by kernel_rfl) (fun s => by kernel_rfl) (fun _ _ _ _ => trivial) (fun _ _ => hpI_flat h)
    (fun s j _ _ => by cases j <;> exact ⟨hpI_flat h, fun h => by cases h⟩)
theorem hpW_flat (h : cs.all Ex.flat = true) (a b : Int) : ∀ o, (o, true) ∈ hpW cs t s ex a b → FlatO o := by
  intro o ho
  simp [hpW] at ho
  rcases ho with rfl | rfl | rfl
  · exact fun x hx => List.all_eq_true.1 h x hx
  · exact fun x hx => List.all_eq_true.1 (show [fn 121].all Ex.flat = true from rfl) x hx
  · exact fun x hx => List.all_eq_true.1 (show [i a, i b].all Ex.flat = true from rfl) x hx
theorem hpE_flat (h : cs.all Ex.flat = true) : ∀ o, (o, true) ∈ hpE cs t s ex → FlatO o := by
  intro o ho
  simp [hpE] at ho
  subst ho
  exact fun x hx => List.all_eq_true.1 h x hx
theorem L94 (h : cs.all Ex.flat = true) : Loop1 Tryz.prog 2 118 B92 (S94 cs t s n c ex) 5 (st94 cs n c) (fun _ => True) :=
  .mk' (C := fun _ => CX1) (n := 60) (fun _ _ => tsX1) (fun _ _ => .none) (fun s ro _ => by kernel_rfl) (fun s ro _ => by kernel_rfl) (fun s => by kernel_rfl) (fun _ _ _ _ => trivial) (fun _ _ => hpW_flat h _ _)
    (fun s j _ _ => by cases j <;> exact ⟨hpE_flat h, fun h => by cases h⟩)
theorem run92 (h : okP cs n c) : ∃ r, runS (st92 cs n c) (n + 1) 0 = some r ∧ ((firstF (eIx cs) n 0 = 0 ∧ r = (0, (n : Int))) ∨ (firstF (eIx cs) n 0 ≠ 0 ∧ ∃ j : Nat, j < n ∧ r = (1, (j : Int)) ∧ eIx cs j = firstF (eIx cs) n 0 ∧ ∀ k, k < j → eIx cs k = 0)) := by
  have hc := h.2.1
  have hl := h.2.2.1
  refine run_first (st := fun j => ((j : Nat) : Int)) (e := eIx cs) (a := 0) (b := fun _ => 1) n (fun j hj he => ?_) (fun j hj he => ?_) ?_
  · unfold st92
    rw [br_t (by rw [ltF_eq]; simpa using hj), askS_sel (bnd_t hj hc), askS_sel (cP_t h hj), show ((j : Nat) : Int).toNat = j from rfl, br_f (by rw [eqF_d]; simp [he]), wsucc (by omega)]; rfl
  · unfold st92
    rw [br_t (by rw [ltF_eq]; simpa using hj), askS_sel (bnd_t hj hc), askS_sel (cP_t h hj), show ((j : Nat) : Int).toNat = j from rfl, br_t (by rw [eqF_d]; simp [he])]; rfl
  · unfold st92
    rw [br_f (by rw [ltF_eq]; simp)]; rfl
theorem run94 (h : okP cs n c) (a b : Int) : ∃ r, runS (st94 cs n c) (n + 1) (0, a, b) = some r ∧ ((firstF (eOr a cs) n 0 = 0 ∧ r = (0, (n : Int), pvA a cs n, pvB b cs n)) ∨ (firstF (eOr a cs) n 0 ≠ 0 ∧ ∃ j : Nat, j < n ∧ r = (1, (j : Int), pvA a cs j, pvB b cs j) ∧ eOr a cs j = firstF (eOr a cs) n 0 ∧ ∀ k, k < j → eOr a cs k = 0)) := by
  have hc := h.2.1
  have hl := h.2.2.1
  refine run_first (st := fun j => (((j : Nat) : Int), pvA a cs j, pvB b cs j)) (e := eOr a cs) (a := 0) (b := fun _ => 1) n (fun j hj he => ?_) (fun j hj he => ?_) ?_
  · unfold st94
    dsimp only
    rw [br_t (by rw [ltF_eq]; simpa using hj), askS_sel (bnd_t hj hc), askS_sel (cP_t h hj), show ((j : Nat) : Int).toNat = j from rfl, br_f (by rw [eqF_d]; simp [show orE (pvA a cs j) (pA cs j) = 0 from he]), wsucc (by omega)]
    simp [SS.sel, pvA, pvB]
  · unfold st94
    dsimp only
    rw [br_t (by rw [ltF_eq]; simpa using hj), askS_sel (bnd_t hj hc), askS_sel (cP_t h hj), show ((j : Nat) : Int).toNat = j from rfl, br_t (by rw [eqF_d]; simp [show ¬ orE (pvA a cs j) (pA cs j) = 0 from he])]; rfl
  · unfold st94
    dsimp only
    rw [br_f (by rw [ltF_eq]; simp)]; rfl
end
def sp92 : ESpec := fun al css => match al, css with
  | [.slice (some ⟨1, 0, none⟩) n c, .func (.func 119) ⟨[]⟩ ⟨[]⟩], [cs] => some (okP cs n c, i (firstF (eIx cs) n 0))
  | _, _ => none
def sp94 : ESpec := fun al css => match al, css with
  | [.slice (some ⟨1, 0, none⟩) n c, .agg ⟨[.int .i64 a, .int .i64 _]⟩, .func (.func 121) ⟨[]⟩ ⟨[]⟩], [cs] => some (okP cs n c, i (firstF (eOr a cs) n 0))
  | _, _ => none
theorem c92 : ∀ al css os p v, sp92 al css = some (p, v) → p → Blks css os → (∀ cs ∈ css, cs.all Ex.flat = true) ∧ clean 6 v = true ∧ ∃ H', Sound Tryz.prog (gl + css.length) (.call 118 ⟨al⟩ (heapL (deads ++ os))) (.val v H') := by
  intro al css os p v hs hp hb
  unfold sp92 at hs
  split at hs
  case h_2 => cases hs
  rename_i n c cs
  cases hs
  obtain ⟨t, s, ex, rfl⟩ := blks1 hb
  refine ⟨by simpa using hp.1, rfl, ?_⟩
  obtain ⟨r, hr, hv⟩ := run92 hp
  have hL := (L92 (t := t) (s := s) (n := n) (c := c) (ex := ex) hp.1).table (id := 2) .none (by decide) trivial hr (by kernel_rfl) [0, 1]
  obtain ⟨H', h'⟩ := Out.vals_sel (x92 cs t s n c ex r) (v := i (firstF (eIx cs) n 0)) (by
    rw [v92]
    rcases hv with ⟨h1, rfl⟩ | ⟨_, j, _, rfl, h2, _⟩
    · rw [h1]; rfl
    · rw [← h2]; rfl)
  exact ⟨H', execO_sound (C := K92 cs t s n c ex r) tsX1 hL 40 _ _ h'⟩
theorem c94 : ∀ al css os p v, sp94 al css = some (p, v) → p → Blks css os → (∀ cs ∈ css, cs.all Ex.flat = true) ∧ clean 6 v = true ∧ ∃ H', Sound Tryz.prog (gl + css.length) (.call 120 ⟨al⟩ (heapL (deads ++ os))) (.val v H') := by
  intro al css os p v hs hp hb
  unfold sp94 at hs
  split at hs
  case h_2 => cases hs
  rename_i n c a b cs
  cases hs
  obtain ⟨t, s, ex, rfl⟩ := blks1 hb
  refine ⟨by simpa using hp.1, rfl, ?_⟩
  obtain ⟨r, hr, hv⟩ := run94 hp a b
  have hL := (L94 (t := t) (s := s) (n := n) (c := c) (ex := ex) hp.1).table (id := 2) (s0 := (0, a, b)) .none (by decide) trivial hr (by kernel_rfl) [0, 1]
  obtain ⟨H', h'⟩ := Out.vals_sel (x94 cs t s n c ex a b r) (v := i (firstF (eOr a cs) n 0)) (by
    rw [v94]
    rcases hv with ⟨h1, rfl⟩ | ⟨_, j, _, rfl, h2, _⟩
    · rw [h1]; rfl
    · rw [← h2]; rfl)
  exact ⟨H', execO_sound (C := K94 cs t s n c ex a b r) tsX1 hL 60 _ _ h'⟩
noncomputable def TX2 : Tb := ext (ext TX1 118 (autoE sp92 [] (heapL deads))) 120 (autoE sp94 [] (heapL deads))
theorem tsX2 {G : Nat} : TSound Tryz.prog G TX2 := (tsX1.auto c92).auto c94
end Go.Proofs.YteemponkignnhaaGreat.Ways
set_option maxRecDepth 10000
noncomputable section
namespace Go.Proofs.YteemponkignnhaaGreat.Ways
open Go Go.Ex Go.RowKit Go.Turn
noncomputable def B91 : Code := bodyL Tryz.f117 3
noncomputable def CX2 : Cfg := ⟨TX2, at_ [(117, 12)] .bool no_, on_ [(117, 16), (117, 18), (117, 21), (117, 100022)], noL⟩
def setA (out : List Value) (j : Int) (x : Int) : List Value := out.set (0 + j.toNat * 2) (i x)
section
variable (cs : List Value) (t s n : Nat) (ex : Bool) (d : Int)
def hpV4 (out : List Value) : List (CO × Bool) := [(.dead, false), (.cells cs t s ex, true), (.dead, false), (.cells out 114 2 false, true)]
def S91 : Shape (Int × List Value) := ⟨25, fun q => ⟨[(1, i d), (5, sl 3 0 n n), (10, i n), (11, i q.1)], hpV4 cs t s ex q.2⟩, fun _ q => (.exit 0, ⟨[(5, sl 3 0 n n)], hpV4 cs t s ex q.2⟩)⟩
def st91 (q : Int × List Value) : SS (Int × List Value) := .br (ltF q.1 n) (askS (bnd_ q.1 n n) <| askS (isCellB (.i .i64) q.2[0 + q.1.toNat * 2 + 0]?) <| askS (bnd_ q.1 n n) <| askS (decide (0 + q.1.toNat * 2 + 0 < q.2.length) && true) <|
  .next 4 [0, 1, 2, 3] (wrapF .i64 (q.1 + 1), setA q.2 q.1 (wrapF .i64 (pA q.2 q.1.toNat + d)))) (.done 4 [0, 1, 2, 3] 0)
end
section
variable {cs : List Value} {t s n : Nat} {ex : Bool} {d : Int}
theorem hpV4_flat {out : List Value} (h : cs.all Ex.flat = true) (h2 : out.all Ex.flat = true) : ∀ o, (o, true) ∈ hpV4 cs t s ex out → FlatO o := by
  intro o ho
  simp [hpV4] at ho
  rcases ho with rfl | rfl
  · exact fun x hx => List.all_eq_true.1 h x hx
  · exact fun x hx => List.all_eq_true.1 h2 x hx
theorem good91 : ∀ q q', GdQ q → (st91 n d q).sel = some (.inl q') → GdQ q' := by
  intro q q' hg h
  rcases br_or' h with h | h
  · have h := ask_or' (ask_or' (ask_or' (ask_or' h)))
    cases h
    exact set_flat hg rfl
  · cases h
theorem L91 (h : cs.all Ex.flat = true) : Loop1 Tryz.prog 2 117 B91 (S91 cs t s n ex d) 4 (st91 n d) GdQ :=
  .mk' (C := fun _ => CX2) (n := 60) (fun _ _ => tsX2) (fun _ _ => .none) (fun s ro _ => by kernel_rfl) (fun s ro _ => by kernel_rfl) (fun s => by kernel_rfl) good91 (fun _ hq => hpV4_flat h hq)
    (fun _ _ hq _ => ⟨hpV4_flat h hq, fun h => by cases h⟩)
end
def shP (d : Int) (p : Pt) : Pt := (wrapF .i64 (p.1 + d), p.2)
def upP (d : Int) (P : List Pt) (j : Nat) : List Pt := (P.take j).map (shP d) ++ P.drop j
theorem upP_len (d : Int) (P : List Pt) (j : Nat) : (upP d P j).length = P.length := by
  unfold upP
  rw [List.length_append, List.length_map, List.length_take, List.length_drop]; omega
theorem setA_app (A B : List Value) (x y : Value) (z : Int) : (A ++ x :: y :: B).set A.length (i z) = A ++ i z :: y :: B := by
  rw [List.set_append_right _ _ (Nat.le_refl _), Nat.sub_self]; rfl
theorem upP_step (d : Int) (P : List Pt) (j : Nat) (h : j < P.length) : setA (flatP (upP d P j)) (j : Int) (wrapF .i64 (pA (flatP (upP d P j)) j + d)) = flatP (upP d P (j + 1)) := by
  have hd : P.drop j = P[j] :: P.drop (j + 1) := List.drop_eq_getElem_cons h
  have hA : (flatP ((P.take j).map (shP d))).length = j * 2 := by rw [flatP_len, List.length_map, List.length_take]; congr 1; omega
  have e0 : flatP (upP d P j) = flatP ((P.take j).map (shP d)) ++ i P[j].1 :: i P[j].2 :: flatP (P.drop (j + 1)) := by
    unfold upP
    rw [flatP_app, hd]; rfl
  have e1 : pA (flatP (upP d P j)) j = P[j].1 := by
    unfold pA
    rw [e0, List.getElem?_append_right (by omega), hA, show 0 + j * 2 - j * 2 = 0 from by omega]; rfl
  have e2 : flatP (upP d P (j + 1)) = flatP ((P.take j).map (shP d)) ++ i (wrapF .i64 (P[j].1 + d)) :: i P[j].2 :: flatP (P.drop (j + 1)) := by
    unfold upP
    rw [List.take_add_one, List.getElem?_eq_getElem h, List.map_append, flatP_app, flatP_app, List.append_assoc]; rfl
  rw [e1, e2, e0]
  unfold setA
  rw [show ((j : Nat) : Int).toNat = j from rfl, show 0 + j * 2 = (flatP ((P.take j).map (shP d))).length from by omega]
  exact setA_app _ _ _ _ _
theorem run91 {P : List Pt} {d : Int} (hn : P.length < 1000000) : runS (st91 P.length d) (P.length + 1) (0, flatP P) = some (0, ((P.length : Int), flatP (P.map (shP d)))) := by
  have key := run_all (step := st91 P.length d) (st := fun j => (((j : Nat) : Int), flatP (upP d P j))) (a := 0) P.length (fun j hj => ?_) ?_
  · have e0 : flatP (upP d P 0) = flatP P := by simp [upP]
    have e1 : flatP (upP d P P.length) = flatP (P.map (shP d)) := by simp [upP]
    rw [e0, e1] at key
    exact key
  · unfold st91
    dsimp only
    have hl : (flatP (upP d P j)).length = P.length * 2 := by rw [flatP_len, upP_len]
    have hcell : isCellB (.i .i64) (flatP (upP d P j))[0 + ((j : Nat) : Int).toNat * 2 + 0]? = true := by
      rw [show 0 + ((j : Nat) : Int).toNat * 2 + 0 = j * 2 from by simp, (flatP_get _ j (by rw [upP_len]; exact hj)).1]; rfl
    have hw : (decide (0 + ((j : Nat) : Int).toNat * 2 + 0 < (flatP (upP d P j)).length) && true) = true := by
      rw [hl, Bool.and_true, decide_eq_true_eq]; simp; omega
    rw [br_t (by rw [ltF_eq]; simpa using hj), askS_sel (bnd_t hj (Nat.le_refl _)), askS_sel hcell, askS_sel (bnd_t hj (Nat.le_refl _)), askS_sel hw, wsucc (by omega), show ((j : Nat) : Int).toNat = j from rfl, upP_step d P j hj]; rfl
  · unfold st91
    dsimp only
    rw [br_f (by rw [ltF_eq]; simp)]; rfl
def xT (cs : List Value) (m : Nat) : List Value := (cs.drop 0).take ((m + 1) * 2)
def gT (cs : List Value) (m : Nat) : Bool := !decide (m + 1 = 0) && (decide (m + 1 ≤ m + 1) && (decide (m + 1 ≤ 1048576) && decide (0 + (m + 1) * 2 ≤ cs.length)))
section
variable (cs : List Value) (t s m : Nat) (ex : Bool) (d : Int)
noncomputable def K91 (r : Nat × Int × List Value) : Cfg := ⟨TX2, no_, on_ [(129, 7), (129, 200007)], loopE noL 117 3 25 4 B91 ((S91 cs t s (m + 1) ex d).st (0, xT cs m)).live ((S91 cs t s (m + 1) ex d).st (0, xT cs m)).hp (finO (S91 cs t s (m + 1) ex d) r [0])⟩
noncomputable def o91 (j : Int) (out : List Value) : Out QRes := execO Tryz.prog 2 (K91 cs t s m ex d (0, (j, out))) 60 (.call 117 ⟨[sl 1 0 (m + 1) (m + 1), i d]⟩ (heapL (deads ++ [.cells cs t s ex])))
theorem v91 (j : Int) (out : List Value) : (o91 cs t s m ex d j out).news = .br (gT cs m) (.br true (.leaf 3 (.sl (m + 1) (m + 1) out 114 2 false)) .fail) .fail := by kernel_rfl
theorem x91 (j : Int) (out : List Value) : o91 cs t s m ex d j out = (o91 cs t s m ex d j out).fix := by kernel_rfl
end
def RowE (cs : List Value) (n : Nat) : Prop := ∃ P : List Pt, cs = flatP P ∧ P.length = n ∧ n < 1000000
theorem RowE.cells {cs : List Value} {n : Nat} (h : RowE cs n) : cs = flatP (pts cs n) := by
  obtain ⟨P, rfl, rfl, _⟩ := h
  rw [pts_flat P _ (Nat.le_refl _), List.take_length]
def sp91 : NSpec := fun al css => match al, css with
  | [.slice (some ⟨1, 0, none⟩) (m + 1) (k + 1), .int .i64 d], [cs] => some (k = m ∧ RowE cs (m + 1), .sl (m + 1) (m + 1) (flatP ((pts cs (m + 1)).map (shP d))) 114 2 false)
  | _, _ => none
theorem c91 : ∀ al css os p v, sp91 al css = some (p, v) → p → Blks css os → (∀ cs ∈ css, cs.all Ex.flat = true) ∧ v.Ok Tryz.prog 117 al deads os (gl + css.length) := by
  intro al css os p v hs hp hb
  unfold sp91 at hs
  split at hs
  case h_2 => cases hs
  rename_i m k d cs
  cases hs
  obtain ⟨t, s, ex, rfl⟩ := blks1 hb
  obtain ⟨rfl, P, rfl, hl, hn⟩ := hp
  have hfl : (flatP P).all Ex.flat = true := flatP_flat P
  refine ⟨by simpa using hfl, ?_⟩
  have hP : pts (flatP P) (k + 1) = P := by rw [← hl, pts_flat P _ (Nat.le_refl _), List.take_length]
  have hx : xT (flatP P) k = flatP P := by unfold xT; rw [List.drop_zero, List.take_of_length_le (by rw [flatP_len, hl]; exact Nat.le_refl _)]
  have hr : runS (st91 (k + 1) d) (k + 1 + 1) (0, xT (flatP P) k) = some (0, (((k + 1 : Nat) : Int), flatP (P.map (shP d)))) := by
    rw [hx, ← hl]; exact run91 (by omega)
  have hL := (L91 (cs := flatP P) (t := t) (s := s) (n := k + 1) (ex := ex) (d := d) hfl).table (id := 3) (s0 := (0, xT (flatP P) k)) .none (by decide) (show (xT (flatP P) k).all Ex.flat = true by rw [hx]; exact hfl) hr (by kernel_rfl) [0]
  rw [hP]
  refine news_ok (C := K91 (flatP P) t s k ex d (0, (((k + 1 : Nat) : Int), flatP (P.map (shP d))))) (n := 60) tsX2 hL (x91 (flatP P) t s k ex d _ _) (b := 3) ?_ (show 2 ≤ 3 by decide) (flatP_flat _)
  refine (congrArg NT.sel (v91 (flatP P) t s k ex d _ _)).trans ?_
  have hg : gT (flatP P) k = true := by
    unfold gT
    rw [flatP_len, hl]
    simp; omega
  rw [hg]; rfl
noncomputable def TX3 : Tb := ext TX2 117 (newE sp91 [] (heapL deads))
theorem tsX3 {G : Nat} : TSound Tryz.prog G TX3 := tsX2.new c91
end Go.Proofs.YteemponkignnhaaGreat.Ways
set_option maxRecDepth 10000
noncomputable section
namespace Go.Proofs.YteemponkignnhaaGreat.Ways
open Go Go.Ex Go.RowKit Go.Turn
def szQ (x : Int) : Int := wrapF .i64 (x - wrapF .i64 (((0 : Nat) : Int) - ((0 : Nat) : Int)))
section
variable (cs ds : List Value) (t s m t2 s2 k : Nat) (ex e2 : Bool) (d : Int)
end
def eJ (X : List Pt) : Int := fst2 (firstF (eIx (flatP X)) X.length 0) (firstF (eOr (-1) (flatP X)) X.length 0)
def JE (cs ds : List Value) (m k : Nat) (d : Int) : List Pt := pts cs (m + 1) ++ (pts ds (k + 1)).map (shP d)
end Go.Proofs.YteemponkignnhaaGreat.Ways
