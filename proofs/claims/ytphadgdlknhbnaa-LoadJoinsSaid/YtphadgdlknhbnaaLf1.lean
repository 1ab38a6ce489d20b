import Derived.Test.YtphadgdlknhbnaaLc5
set_option maxRecDepth 10000
noncomputable section
namespace Go.Proofs.Ytphadgdlknhbnaa.Ways
open Go Go.Ex Go.RowKit Go.Turn
theorem p96 (b : Bool) : Pure Try.prog Hd 96 [b_ b] (i (cond b 0 11)) := by
  refine pure_run (C := ⟨noT, at_ [(60, 5)] .bool no_, off_, noL⟩) (G := 1) 30 (.br b (.leaf (i 0)) (.leaf (i 11))) .none .none (by decide) hd_len rfl (by kernel_rfl) (by kernel_rfl) ?_
  cases b <;> rfl
def s96 : List Value → Option Value
  | [.bool b] => some (i (cond b 0 11))
  | _ => none
noncomputable def TX0 : Tb := ext T14 96 (pureE s96 [] Hd)
theorem tsX0 {G : Nat} : TSound Try.prog G TX0 := TSound.pure hd_vars ts14 fun args v h => by
  unfold s96 at h
  split at h
  · cases h; exact p96 _
  · cases h
theorem p93 (a b : Int) : Pure Try.prog Hd 93 [ag [i a, i b]] (i (ixE a)) :=
  pure_run (C := ⟨TX0, no_, off_, noL⟩) (G := 1) 30 (.leaf (i (ixE a))) tsX0 .none (by decide) hd_len rfl (by kernel_rfl) (by kernel_rfl) rfl
def orE (a c : Int) : Int := cond (ltF a c) 0 11
theorem p95 (a b c d : Int) : Pure Try.prog Hd 95 [ag [i a, i b], ag [i c, i d]] (i (orE a c)) :=
  pure_run (C := ⟨TX0, no_, off_, noL⟩) (G := 1) 30 (.leaf (i (orE a c))) tsX0 .none (by decide) hd_len rfl (by kernel_rfl) (by kernel_rfl) rfl
def s93 : List Value → Option Value
  | [.agg ⟨[.int .i64 a, .int .i64 _]⟩] => some (i (ixE a))
  | _ => none
def s95 : List Value → Option Value
  | [.agg ⟨[.int .i64 a, .int .i64 _]⟩, .agg ⟨[.int .i64 c, .int .i64 _]⟩] => some (i (orE a c))
  | _ => none
noncomputable def TX1 : Tb := ext (ext TX0 93 (pureE s93 [] Hd)) 95 (pureE s95 [] Hd)
theorem tsX1 {G : Nat} : TSound Try.prog G TX1 := by
  refine TSound.pure hd_vars (TSound.pure hd_vars tsX0 fun args v h => ?_) fun args v h => ?_
  · unfold s93 at h
    split at h
    · cases h; exact p93 _ _
    · cases h
  · unfold s95 at h
    split at h
    · cases h; exact p95 _ _ _ _
    · cases h
noncomputable def B92 : Code := bodyL Try.f92 2
noncomputable def spX : Nat → Nat → Split := at_ [(92, 11), (92, 18)] .bool no_
def syX : Nat → Nat → Bool := on_ [(92, 12), (92, 13)]
noncomputable def CX1 : Cfg := ⟨TX1, spX, syX, noL⟩
end Go.Proofs.Ytphadgdlknhbnaa.Ways
set_option maxRecDepth 10000
noncomputable section
namespace Go.Proofs.Ytphadgdlknhbnaa.Ways
open Go Go.Ex Go.RowKit Go.Turn
def eIx (cs : List Value) (j : Nat) : Int := ixE (pA cs j)
def pvA (a : Int) (cs : List Value) (j : Nat) : Int := if j = 0 then a else pA cs (j - 1)
def pvB (b : Int) (cs : List Value) (j : Nat) : Int := if j = 0 then b else pB cs (j - 1)
def eOr (a : Int) (cs : List Value) (j : Nat) : Int := orE (pvA a cs j) (pA cs j)
section
variable (cs : List Value) (t s n c : Nat) (ex : Bool)
def S92 : Shape Int := ⟨21, fun j => ⟨[(1, fn 93), (8, sl 1 0 n c), (9, i n), (10, i j)], hpI cs t s ex⟩, fun k j => match k with
  | 0 => (.exit 0, ⟨[], hpI cs t s ex⟩)
  | _ => (.ret, ⟨[(4, i (eIx cs j.toNat))], hpI cs t s ex⟩)⟩
def st92 (j : Int) : SS Int := .br (ltF j n) (askS (bnd_ j n c) <| askS (cP cs j) <| .br (!eqF (eIx cs j.toNat) 0) (.done 3 [0, 1] 1) (.next 3 [0, 1] (wrapF .i64 (j + 1)))) (.done 2 [0, 1] 0)
noncomputable def K92 (r : Nat × Int) : Cfg := ⟨TX1, spX, syX, loopE noL 92 2 21 2 B92 ((S92 cs t s n c ex).st 0).live ((S92 cs t s n c ex).st 0).hp (finO (S92 cs t s n c ex) r [0, 1])⟩
def vt92 (r : Nat × Int) : VT := .br (Nat.beq r.1 0) (.leaf (i 0)) (.br (Nat.beq r.1 1) (.leaf (i (eIx cs r.2.toNat))) .fail)
noncomputable def o92 (r : Nat × Int) : Out QRes := execO Try.prog 2 (K92 cs t s n c ex r) 40 (.call 92 ⟨[sl 1 0 n c, fn 93]⟩ (heapL [.dead, .cells cs t s ex]))
theorem v92 (r : Nat × Int) : (o92 cs t s n c ex r).vals = vt92 cs r := by kernel_rfl
theorem x92 (r : Nat × Int) : o92 cs t s n c ex r = (o92 cs t s n c ex r).fix := by kernel_rfl
def hpW (a b : Int) : List (CO × Bool) := [(.dead, false), (.cells cs t s ex, true), (.dead, false), (.cells [fn 95] 135 1 true, true), (.cells [i a, i b] 67 1 true, true)]
def hpE : List (CO × Bool) := [(.dead, false), (.cells cs t s ex, true), (.dead, false), (.dead, false), (.dead, false)]
def S94 : Shape (Int × Int × Int) := ⟨21, fun q => ⟨[(1, fnc 108 [pt 3 0, pt 4 0]), (8, sl 1 0 n c), (9, i n), (10, i q.1)], hpW cs t s ex q.2.1 q.2.2⟩, fun k q => match k with
  | 0 => (.exit 0, ⟨[], hpE cs t s ex⟩)
  | _ => (.ret, ⟨[(4, i (orE q.2.1 (pA cs q.1.toNat)))], hpE cs t s ex⟩)⟩
def st94 (q : Int × Int × Int) : SS (Int × Int × Int) := .br (ltF q.1 n) (askS (bnd_ q.1 n c) <| askS (cP cs q.1) <| .br (!eqF (orE q.2.1 (pA cs q.1.toNat)) 0) (.done 7 [0, 1, 2, 3, 4] 1) (.next 7 [0, 1, 2, 3, 4] (wrapF .i64 (q.1 + 1), pA cs q.1.toNat, pB cs q.1.toNat))) (.done 5 [0, 1, 2, 3, 4] 0)
noncomputable def K94 (a b : Int) (r : Nat × Int × Int × Int) : Cfg := ⟨TX1, spX, syX, loopE noL 92 2 21 5 B92 ((S94 cs t s n c ex).st (0, a, b)).live ((S94 cs t s n c ex).st (0, a, b)).hp (finO (S94 cs t s n c ex) r [0, 1])⟩
noncomputable def o94 (a b : Int) (r : Nat × Int × Int × Int) : Out QRes := execO Try.prog 2 (K94 cs t s n c ex a b r) 60 (.call 94 ⟨[sl 1 0 n c, ag [i a, i b], fn 95]⟩ (heapL [.dead, .cells cs t s ex]))
def vt94 (r : Nat × Int × Int × Int) : VT := .br (Nat.beq r.1 0) (.leaf (i 0)) (.br (Nat.beq r.1 1) (.leaf (i (orE r.2.2.1 (pA cs r.2.1.toNat)))) .fail)
theorem v94 (a b : Int) (r : Nat × Int × Int × Int) : (o94 cs t s n c ex a b r).vals = vt94 cs r := by kernel_rfl
theorem x94 (a b : Int) (r : Nat × Int × Int × Int) : o94 cs t s n c ex a b r = (o94 cs t s n c ex a b r).fix := by kernel_rfl
end
section
variable {cs : List Value} {t s n c : Nat} {ex : Bool}
theorem L92 (h : cs.all Ex.flat = true) : Loop1 Try.prog 2 92 B92 (S92 cs t s n c ex) 2 (st92 cs n c) (fun _ => True) :=
  .mk' (C := fun _ => CX1) (n := 40) (fun _ _ => tsX1) (fun _ _ => .none) (fun s ro _ => by kernel_rfl) (fun s ro _ => by kernel_rfl) (fun s => by kernel_rfl) (fun _ _ _ _ => trivial) (fun _ _ => hpI_flat h)
    (fun s j _ _ => by cases j <;> exact ⟨hpI_flat h, fun h => by cases h⟩)
theorem hpW_flat (h : cs.all Ex.flat = true) (a b : Int) : ∀ o, (o, true) ∈ hpW cs t s ex a b → FlatO o := by
  intro o ho
  simp [hpW] at ho
  rcases ho with rfl | rfl | rfl
  · exact fun x hx => List.all_eq_true.1 h x hx
  · exact fun x hx => List.all_eq_true.1 (show [fn 95].all Ex.flat = true from rfl) x hx
  · exact fun x hx => List.all_eq_true.1 (show [i a, i b].all Ex.flat = true from rfl) x hx
theorem hpE_flat (h : cs.all Ex.flat = true) : ∀ o, (o, true) ∈ hpE cs t s ex → FlatO o := by
  intro o ho
  simp [hpE] at ho
  subst ho
  exact fun x hx => List.all_eq_true.1 h x hx
theorem L94 (h : cs.all Ex.flat = true) : Loop1 Try.prog 2 92 B92 (S94 cs t s n c ex) 5 (st94 cs n c) (fun _ => True) :=
  .mk' (C := fun _ => CX1) (n := 60) (fun _ _ => tsX1) (fun _ _ => .none) (fun s ro _ => by kernel_rfl) (fun s ro _ => by kernel_rfl) (fun s => by kernel_rfl) (fun _ _ _ _ => trivial) (fun _ _ => hpW_flat h _ _)
    (fun s j _ _ => by cases j <;> exact ⟨hpE_flat h, fun h => by cases h⟩)
theorem run92 (h : okP cs n c) : ∃ r, runS (st92 cs n c) (n + 1) 0 = some r ∧ ((firstF (eIx cs) n 0 = 0 ∧ r = (0, (n : Int))) ∨ (firstF (eIx cs) n 0 ≠ 0 ∧ ∃ j : Nat, j < n ∧ r = (1, (j : Int)) ∧ eIx cs j = firstF (eIx cs) n 0 ∧ ∀ k, k < j → eIx cs k = 0)) := by
  have hc := h.2.1
  have hl := h.2.2.1
  refine run_first (st := fun j => ((j : Nat) : Int)) (e := eIx cs) (a := 0) (b := fun _ => 1) n (fun j hj he => ?_) (fun j hj he => ?_) ?_
  · unfold st92
    rw [br_t (by rw [ltF_eq]; simpa using hj), askS_sel (bnd_t hj hc), askS_sel (cP_t h hj), show ((j : Nat) : Int).toNat = j from rfl, br_f (by rw [eqF_d]; simp [he]), wsucc (by omega)]; rfl
  · unfold st92
    rw [br_t (by rw [ltF_eq]; simpa using hj), askS_sel (bnd_t hj hc), askS_sel (cP_t h hj), show ((j : Nat) : Int).toNat = j from rfl, br_t (by rw [eqF_d]; simp [he])]; rfl
  · unfold st92
    rw [br_f (by rw [ltF_eq]; simp)]; rfl
theorem run94 (h : okP cs n c) (a b : Int) : ∃ r, runS (st94 cs n c) (n + 1) (0, a, b) = some r ∧ ((firstF (eOr a cs) n 0 = 0 ∧ r = (0, (n : Int), pvA a cs n, pvB b cs n)) ∨ (firstF (eOr a cs) n 0 ≠ 0 ∧ ∃ j : Nat, j < n ∧ r = (1, (j : Int), pvA a cs j, pvB b cs j) ∧ eOr a cs j = firstF (eOr a cs) n 0 ∧ ∀ k, k < j → eOr a cs k = 0)) := by
  have hc := h.2.1
  have hl := h.2.2.1
  refine run_first (st := fun j => (((j : Nat) : Int), pvA a cs j, pvB b cs j)) (e := eOr a cs) (a := 0) (b := fun _ => 1) n (fun j hj he => ?_) (fun j hj he => ?_) ?_
  · unfold st94
    dsimp only
    rw [br_t (by rw [ltF_eq]; simpa using hj), askS_sel (bnd_t hj hc), askS_sel (cP_t h hj), show ((j : Nat) : Int).toNat = j from rfl, br_f (by rw [eqF_d]; simp [show orE (pvA a cs j) (pA cs j) = 0 from he]), wsucc (by omega)]
    simp [SS.sel, pvA, pvB]
  · unfold st94
    dsimp only
    rw [br_t (by rw [ltF_eq]; simpa using hj), askS_sel (bnd_t hj hc), askS_sel (cP_t h hj), show ((j : Nat) : Int).toNat = j from rfl, br_t (by rw [eqF_d]; simp [show ¬ orE (pvA a cs j) (pA cs j) = 0 from he])]; rfl
  · unfold st94
    dsimp only
    rw [br_f (by rw [ltF_eq]; simp)]; rfl
end
def sp92 : ESpec := fun al css => match al, css with
  | [.slice (some ⟨1, 0, none⟩) n c, .func (.func 93) ⟨[]⟩ ⟨[]⟩], [cs] => some (okP cs n c, i (firstF (eIx cs) n 0))
  | _, _ => none
def sp94 : ESpec := fun al css => match al, css with
  | [.slice (some ⟨1, 0, none⟩) n c, .agg ⟨[.int .i64 a, .int .i64 _]⟩, .func (.func 95) ⟨[]⟩ ⟨[]⟩], [cs] => some (okP cs n c, i (firstF (eOr a cs) n 0))
  | _, _ => none
theorem c92 : ∀ al css os p v, sp92 al css = some (p, v) → p → Blks css os → (∀ cs ∈ css, cs.all Ex.flat = true) ∧ clean 6 v = true ∧ ∃ H', Sound Try.prog (gl + css.length) (.call 92 ⟨al⟩ (heapL (deads ++ os))) (.val v H') := by
  intro al css os p v hs hp hb
  unfold sp92 at hs
  split at hs
  case h_2 => cases hs
  rename_i n c cs
  cases hs
  obtain ⟨t, s, ex, rfl⟩ := blks1 hb
  refine ⟨by simpa using hp.1, rfl, ?_⟩
  obtain ⟨r, hr, hv⟩ := run92 hp
  have hL := (L92 (t := t) (s := s) (n := n) (c := c) (ex := ex) hp.1).table (id := 2) .none (by decide) trivial hr (by kernel_rfl) [0, 1]
  obtain ⟨H', h'⟩ := Out.vals_sel (x92 cs t s n c ex r) (v := i (firstF (eIx cs) n 0)) (by
    rw [v92]
    rcases hv with ⟨h1, rfl⟩ | ⟨_, j, _, rfl, h2, _⟩
    · rw [h1]; rfl
    · rw [← h2]; rfl)
  exact ⟨H', execO_sound (C := K92 cs t s n c ex r) tsX1 hL 40 _ _ h'⟩
theorem c94 : ∀ al css os p v, sp94 al css = some (p, v) → p → Blks css os → (∀ cs ∈ css, cs.all Ex.flat = true) ∧ clean 6 v = true ∧ ∃ H', Sound Try.prog (gl + css.length) (.call 94 ⟨al⟩ (heapL (deads ++ os))) (.val v H') := by
  intro al css os p v hs hp hb
  unfold sp94 at hs
  split at hs
  case h_2 => cases hs
  rename_i n c a b cs
  cases hs
  obtain ⟨t, s, ex, rfl⟩ := blks1 hb
  refine ⟨by simpa using hp.1, rfl, ?_⟩
  obtain ⟨r, hr, hv⟩ := run94 hp a b
  have hL := (L94 (t := t) (s := s) (n := n) (c := c) (ex := ex) hp.1).table (id := 2) (s0 := (0, a, b)) .none (by decide) trivial hr (by kernel_rfl) [0, 1]
  obtain ⟨H', h'⟩ := Out.vals_sel (x94 cs t s n c ex a b r) (v := i (firstF (eOr a cs) n 0)) (by
    rw [v94]
    rcases hv with ⟨h1, rfl⟩ | ⟨_, j, _, rfl, h2, _⟩
    · rw [h1]; rfl
    · rw [← h2]; rfl)
  exact ⟨H', execO_sound (C := K94 cs t s n c ex a b r) tsX1 hL 60 _ _ h'⟩
noncomputable def TX2 : Tb := ext (ext TX1 92 (autoE sp92 [] (heapL deads))) 94 (autoE sp94 [] (heapL deads))
theorem tsX2 {G : Nat} : TSound Try.prog G TX2 := (tsX1.auto c92).auto c94
end Go.Proofs.Ytphadgdlknhbnaa.Ways
set_option maxRecDepth 10000
noncomputable section
namespace Go.Proofs.Ytphadgdlknhbnaa.Ways
open Go Go.Ex Go.RowKit Go.Turn
noncomputable def B91 : Code := bodyL Try.f91 3
noncomputable def CX2 : Cfg := ⟨TX2, at_ [(91, 12)] .bool no_, on_ [(91, 16), (91, 18), (91, 21), (91, 100022)], noL⟩
def setA (out : List Value) (j : Int) (x : Int) : List Value := out.set (0 + j.toNat * 2) (i x)
section
variable (cs : List Value) (t s n : Nat) (ex : Bool) (d : Int)
def hpV4 (out : List Value) : List (CO × Bool) := [(.dead, false), (.cells cs t s ex, true), (.dead, false), (.cells out 67 2 false, true)]
def S91 : Shape (Int × List Value) := ⟨25, fun q => ⟨[(1, i d), (5, sl 3 0 n n), (10, i n), (11, i q.1)], hpV4 cs t s ex q.2⟩, fun _ q => (.exit 0, ⟨[(5, sl 3 0 n n)], hpV4 cs t s ex q.2⟩)⟩
def st91 (q : Int × List Value) : SS (Int × List Value) := .br (ltF q.1 n) (askS (bnd_ q.1 n n) <| askS (isCellB (.i .i64) q.2[0 + q.1.toNat * 2 + 0]?) <| askS (bnd_ q.1 n n) <| askS (decide (0 + q.1.toNat * 2 + 0 < q.2.length) && true) <|
  .next 4 [0, 1, 2, 3] (wrapF .i64 (q.1 + 1), setA q.2 q.1 (wrapF .i64 (pA q.2 q.1.toNat + d)))) (.done 4 [0, 1, 2, 3] 0)
end
section
variable {cs : List Value} {t s n : Nat} {ex : Bool} {d : Int}
theorem hpV4_flat {out : List Value} (h : cs.all Ex.flat = true) (h2 : out.all Ex.flat = true) : ∀ o, (o, true) ∈ hpV4 cs t s ex out → FlatO o := by
  intro o ho
  simp [hpV4] at ho
  rcases ho with rfl | rfl
  · exact fun x hx => List.all_eq_true.1 h x hx
  · exact fun x hx => List.all_eq_true.1 h2 x hx
theorem good91 : ∀ q q', GdQ q → (st91 n d q).sel = some (.inl q') → GdQ q' := by
  intro q q' hg h
  rcases br_or' h with h | h
  · have h := ask_or' (ask_or' (ask_or' (ask_or' h)))
    cases h
    exact set_flat hg rfl
  · cases h
theorem L91 (h : cs.all Ex.flat = true) : Loop1 Try.prog 2 91 B91 (S91 cs t s n ex d) 4 (st91 n d) GdQ :=
  .mk' (C := fun _ => CX2) (n := 60) (fun _ _ => tsX2) (fun _ _ => .none) (fun s ro _ => by kernel_rfl) (fun s ro _ => by kernel_rfl) (fun s => by kernel_rfl) good91 (fun _ hq => hpV4_flat h hq)
    (fun _ _ hq _ => ⟨hpV4_flat h hq, fun h => by cases h⟩)
end
def shP (d : Int) (p : Pt) : Pt := (wrapF .i64 (p.1 + d), p.2)
def upP (d : Int) (P : List Pt) (j : Nat) : List Pt := (P.take j).map (shP d) ++ P.drop j
theorem upP_len (d : Int) (P : List Pt) (j : Nat) : (upP d P j).length = P.length := by
  unfold upP
  rw [List.length_append, List.length_map, List.length_take, List.length_drop]; omega
theorem setA_app (A B : List Value) (x y : Value) (z : Int) : (A ++ x :: y :: B).set A.length (i z) = A ++ i z :: y :: B := by
  rw [List.set_append_right _ _ (Nat.le_refl _), Nat.sub_self]; rfl
theorem upP_step (d : Int) (P : List Pt) (j : Nat) (h : j < P.length) : setA (flatP (upP d P j)) (j : Int) (wrapF .i64 (pA (flatP (upP d P j)) j + d)) = flatP (upP d P (j + 1)) := by
  have hd : P.drop j = P[j] :: P.drop (j + 1) := List.drop_eq_getElem_cons h
  have hA : (flatP ((P.take j).map (shP d))).length = j * 2 := by rw [flatP_len, List.length_map, List.length_take]; congr 1; omega
  have e0 : flatP (upP d P j) = flatP ((P.take j).map (shP d)) ++ i P[j].1 :: i P[j].2 :: flatP (P.drop (j + 1)) := by
    unfold upP
    rw [flatP_app, hd]; rfl
  have e1 : pA (flatP (upP d P j)) j = P[j].1 := by
    unfold pA
    rw [e0, List.getElem?_append_right (by omega), hA, show 0 + j * 2 - j * 2 = 0 from by omega]; rfl
  have e2 : flatP (upP d P (j + 1)) = flatP ((P.take j).map (shP d)) ++ i (wrapF .i64 (P[j].1 + d)) :: i P[j].2 :: flatP (P.drop (j + 1)) := by
    unfold upP
    rw [List.take_add_one, List.getElem?_eq_getElem h, List.map_append, flatP_app, flatP_app, List.append_assoc]; rfl
  rw [e1, e2, e0]
  unfold setA
  rw [show ((j : Nat) : Int).toNat = j from rfl, show 0 + j * 2 = (flatP ((P.take j).map (shP d))).length from by omega]
  exact setA_app _ _ _ _ _
theorem run91 {P : List Pt} {d : Int} (hn : P.length < 1000000) : runS (st91 P.length d) (P.length + 1) (0, flatP P) = some (0, ((P.length : Int), flatP (P.map (shP d)))) := by
  have key := run_all (step := st91 P.length d) (st := fun j => (((j : Nat) : Int), flatP (upP d P j))) (a := 0) P.length (fun j hj => ?_) ?_
  · have e0 : flatP (upP d P 0) = flatP P := by simp [upP]
    have e1 : flatP (upP d P P.length) = flatP (P.map (shP d)) := by simp [upP]
    rw [e0, e1] at key
    exact key
  · unfold st91
    dsimp only
    have hl : (flatP (upP d P j)).length = P.length * 2 := by rw [flatP_len, upP_len]
    have hcell : isCellB (.i .i64) (flatP (upP d P j))[0 + ((j : Nat) : Int).toNat * 2 + 0]? = true := by
      rw [show 0 + ((j : Nat) : Int).toNat * 2 + 0 = j * 2 from by simp, (flatP_get _ j (by rw [upP_len]; exact hj)).1]; rfl
    have hw : (decide (0 + ((j : Nat) : Int).toNat * 2 + 0 < (flatP (upP d P j)).length) && true) = true := by
      rw [hl, Bool.and_true, decide_eq_true_eq]; simp; omega
    rw [br_t (by rw [ltF_eq]; simpa using hj), askS_sel (bnd_t hj (Nat.le_refl _)), askS_sel hcell, askS_sel (bnd_t hj (Nat.le_refl _)), askS_sel hw, wsucc (by omega), show ((j : Nat) : Int).toNat = j from rfl, upP_step d P j hj]; rfl
  · unfold st91
    dsimp only
    rw [br_f (by rw [ltF_eq]; simp)]; rfl
def xT (cs : List Value) (m : Nat) : List Value := (cs.drop 0).take ((m + 1) * 2)
def gT (cs : List Value) (m : Nat) : Bool := !decide (m + 1 = 0) && (decide (m + 1 ≤ m + 1) && (decide (m + 1 ≤ 1048576) && decide (0 + (m + 1) * 2 ≤ cs.length)))
section
variable (cs : List Value) (t s m : Nat) (ex : Bool) (d : Int)
noncomputable def K91 (r : Nat × Int × List Value) : Cfg := ⟨TX2, no_, on_ [(107, 7), (107, 200007)], loopE noL 91 3 25 4 B91 ((S91 cs t s (m + 1) ex d).st (0, xT cs m)).live ((S91 cs t s (m + 1) ex d).st (0, xT cs m)).hp (finO (S91 cs t s (m + 1) ex d) r [0])⟩
noncomputable def o91 (j : Int) (out : List Value) : Out QRes := execO Try.prog 2 (K91 cs t s m ex d (0, (j, out))) 60 (.call 91 ⟨[sl 1 0 (m + 1) (m + 1), i d]⟩ (heapL (deads ++ [.cells cs t s ex])))
theorem v91 (j : Int) (out : List Value) : (o91 cs t s m ex d j out).news = .br (gT cs m) (.br true (.leaf 3 (.sl (m + 1) (m + 1) out 67 2 false)) .fail) .fail := by kernel_rfl
theorem x91 (j : Int) (out : List Value) : o91 cs t s m ex d j out = (o91 cs t s m ex d j out).fix := by kernel_rfl
end
def RowE (cs : List Value) (n : Nat) : Prop := ∃ P : List Pt, cs = flatP P ∧ P.length = n ∧ n < 1000000
theorem RowE.cells {cs : List Value} {n : Nat} (h : RowE cs n) : cs = flatP (pts cs n) := by
  obtain ⟨P, rfl, rfl, _⟩ := h
  rw [pts_flat P _ (Nat.le_refl _), List.take_length]
def sp91 : NSpec := fun al css => match al, css with
  | [.slice (some ⟨1, 0, none⟩) (m + 1) (k + 1), .int .i64 d], [cs] => some (k = m ∧ RowE cs (m + 1), .sl (m + 1) (m + 1) (flatP ((pts cs (m + 1)).map (shP d))) 67 2 false)
  | _, _ => none
theorem c91 : ∀ al css os p v, sp91 al css = some (p, v) → p → Blks css os → (∀ cs ∈ css, cs.all Ex.flat = true) ∧ v.Ok Try.prog 91 al deads os (gl + css.length) := by
  intro al css os p v hs hp hb
  unfold sp91 at hs
  split at hs
  case h_2 => cases hs
  rename_i m k d cs
  cases hs
  obtain ⟨t, s, ex, rfl⟩ := blks1 hb
  obtain ⟨rfl, P, rfl, hl, hn⟩ := hp
  have hfl : (flatP P).all Ex.flat = true := flatP_flat P
  refine ⟨by simpa using hfl, ?_⟩
  have hP : pts (flatP P) (k + 1) = P := by rw [← hl, pts_flat P _ (Nat.le_refl _), List.take_length]
  have hx : xT (flatP P) k = flatP P := by unfold xT; rw [List.drop_zero, List.take_of_length_le (by rw [flatP_len, hl]; exact Nat.le_refl _)]
  have hr : runS (st91 (k + 1) d) (k + 1 + 1) (0, xT (flatP P) k) = some (0, (((k + 1 : Nat) : Int), flatP (P.map (shP d)))) := by
    rw [hx, ← hl]; exact run91 (by omega)
  have hL := (L91 (cs := flatP P) (t := t) (s := s) (n := k + 1) (ex := ex) (d := d) hfl).table (id := 3) (s0 := (0, xT (flatP P) k)) .none (by decide) (show (xT (flatP P) k).all Ex.flat = true by rw [hx]; exact hfl) hr (by kernel_rfl) [0]
  rw [hP]
  refine news_ok (C := K91 (flatP P) t s k ex d (0, (((k + 1 : Nat) : Int), flatP (P.map (shP d))))) (n := 60) tsX2 hL (x91 (flatP P) t s k ex d _ _) (b := 3) ?_ (show 2 ≤ 3 by decide) (flatP_flat _)
  refine (congrArg NT.sel (v91 (flatP P) t s k ex d _ _)).trans ?_
  have hg : gT (flatP P) k = true := by
    unfold gT
    rw [flatP_len, hl]
    simp; omega
  rw [hg]; rfl
noncomputable def TX3 : Tb := ext TX2 91 (newE sp91 [] (heapL deads))
theorem tsX3 {G : Nat} : TSound Try.prog G TX3 := tsX2.new c91
end Go.Proofs.Ytphadgdlknhbnaa.Ways
set_option maxRecDepth 10000
noncomputable section
namespace Go.Proofs.Ytphadgdlknhbnaa.Ways
open Go Go.Ex Go.RowKit Go.Turn
noncomputable def TX4 (z : Bool) : Tb := ext TX3 85 (newE (sp85 z) [] (heapL deads))
theorem tsX4 {G : Nat} (z : Bool) : TSound Try.prog G (TX4 z) := tsX3.new (f' := 85) (by cases z <;> first | exact c85z | exact c85m)
def spJ : Nat → Nat → Split := at_ [(90, 20), (106, 6), (106, 16), (69, 28)] .bool no_
def syJ : Nat → Nat → Bool := on_ [(106, 22), (106, 500022), (106, 25), (90, 33), (90, 500033)]
noncomputable def CX4 (z : Bool) : Cfg := ⟨TX4 z, spJ, syJ, noL⟩
def sm1 (m : Nat) : Int := wrapF .i64 (0 + ((m + 1 : Nat) : Int))
def sm2 (m k : Nat) : Int := wrapF .i64 (sm1 m + ((k + 1 : Nat) : Int))
def szQ (x : Int) : Int := wrapF .i64 (x - wrapF .i64 (((0 : Nat) : Int) - ((0 : Nat) : Int)))
def zB (N : Nat) : List Value := (Builtin.zeroCells (Value.agg #[i 0, i 0]).cells N).toList
def aN (b : Bool) (t : NT) : NT := .br b t .fail
def nN (b : Bool) (t : NT) : NT := .br b .fail t
def shL (ds : List Value) (k : Nat) (d : Int) : List Value := flatP ((pts ds (k + 1)).map (shP d))
def cat1 (cs : List Value) (m : Nat) (z : Int) : List Value := putR 2 0 (m + 1) 0 cs (zB z.toNat)
def cat2 (cs sh : List Value) (m k : Nat) (z : Int) : List Value := putR 2 (0 + (m + 1)) (k + 1) 0 sh (cat1 cs m z)
noncomputable def chk (cs sh : List Value) (m k : Nat) (x z : Int) (t : NT) : NT := nN (ltF (sm1 m) 0) <| nN (ltF x 0) <| nN (ltF x 0) <| aN (ltF 0 z) <| aN (ltF 0 z && leF z 1048576) <| aN (leF 0 0 && (leF 0 ((0 : Nat) : Int) && leF ((0 : Nat) : Int) ((z.toNat : Nat) : Int))) <|
  aN (roomB (m + 1) (m + 1) 0 (z.toNat - 0) 2 0 cs (zB z.toNat)) <| aN (roomB (k + 1) (k + 1) (0 + (m + 1)) (z.toNat - 0) 2 0 sh (cat1 cs m z)) t
noncomputable def endJ (c2 : List Value) (n N : Nat) (b : Nat) : NT := aN (tru (okP c2 n N)) <| aN (tru (okP c2 n N)) <| aN (tru (okI [i (firstF (eIx c2) n 0), i (firstF (eOr (-1) c2) n 0)] 2 2)) <|
  .br (!eqF (fst2 (firstF (eIx c2) n 0) (firstF (eOr (-1) c2) n 0)) 0) (.leaf 1000000 (.old (tp [.slice none 0 0, i (fst2 (firstF (eIx c2) n 0) (firstF (eOr (-1) c2) n 0))])))
    (aN (tru (TokE c2 n N)) (.leaf b (.tup (RV c2 n).length (RV c2 n).length (flatP (RV c2 n)) 67 2 false (i 0))))
section
variable (cs ds : List Value) (t s m t2 s2 k : Nat) (ex e2 : Bool) (d : Int)
noncomputable def o69 : Out QRes := execO Try.prog 3 (CX4 false) 80 (.call 69 ⟨[sl 1 0 (m + 1) (m + 1), sl 2 0 (k + 1) (k + 1), i d]⟩ (heapL (deads ++ [.cells cs t s ex, .cells ds t2 s2 e2])))
theorem v69 : (o69 cs ds t s m t2 s2 k ex e2 d).news = aN (tru (k = k ∧ RowE ds (k + 1))) (chk cs (shL ds k d) m k (sm2 m k) (szQ (sm2 m k)) (endJ (cat2 cs (shL ds k d) m k (szQ (sm2 m k))) (0 + (m + 1) + (k + 1)) ((szQ (sm2 m k)).toNat - 0) 7)) := by kernel_rfl
theorem x69 : o69 cs ds t s m t2 s2 k ex e2 d = (o69 cs ds t s m t2 s2 k ex e2 d).fix := by kernel_rfl
noncomputable def o69s : Out QRes := execO Try.prog 2 (CX4 false) 80 (.call 69 ⟨[sl 1 0 (m + 1) (m + 1), sl 1 0 (m + 1) (m + 1), i d]⟩ (heapL (deads ++ [.cells cs t s ex])))
theorem v69s : (o69s cs t s m ex d).news = aN (tru (m = m ∧ RowE cs (m + 1))) (chk cs (shL cs m d) m m (sm2 m m) (szQ (sm2 m m)) (endJ (cat2 cs (shL cs m d) m m (szQ (sm2 m m))) (0 + (m + 1) + (m + 1)) ((szQ (sm2 m m)).toNat - 0) 6)) := by kernel_rfl
theorem x69s : o69s cs t s m ex d = (o69s cs t s m ex d).fix := by kernel_rfl
end
theorem zB_len (N : Nat) : (zB N).length = N * 2 := by
  unfold zB
  rw [Array.length_toList, size_zeroCells]; rfl
theorem cat2_eq {P S : List Pt} {m k : Nat} {z : Int} (hP : P.length = m + 1) (hS : S.length = k + 1) (hz : z = ((m + k + 2 : Nat) : Int)) : cat2 (flatP P) (flatP S) m k z = flatP (P ++ S) := by
  have hp : (flatP P).length = (m + 1) * 2 := by rw [flatP_len, hP]
  have hs : (flatP S).length = (k + 1) * 2 := by rw [flatP_len, hS]
  have h1 : cat1 (flatP P) m z = flatP P ++ (zB z.toNat).drop ((m + 1) * 2) := by
    unfold cat1 putR
    rw [Nat.zero_mul, List.take_zero, List.nil_append, List.drop_zero, List.take_of_length_le (by omega), Nat.zero_add]
  have hd : ((zB z.toNat).drop ((m + 1) * 2)).length = (k + 1) * 2 := by rw [List.length_drop, zB_len, hz]; simp; omega
  unfold cat2 putR
  rw [h1, Nat.zero_add, List.drop_zero, List.take_of_length_le (l := flatP S) (by omega), List.take_append, List.take_of_length_le (by omega), hp, Nat.sub_self, List.take_zero, List.append_nil, List.drop_of_length_le (by rw [List.length_append, hp, hd]; omega), List.append_nil, flatP_app]
theorem flatP_one (P : List Pt) : (flatP P).all oneB = true := by
  induction P with
  | nil => rfl
  | cons _ _ ih => exact ih
theorem sm_eq {m k : Nat} (h : m + k < 900000) : sm1 m = ((m + 1 : Nat) : Int) ∧ sm2 m k = ((m + k + 2 : Nat) : Int) ∧ szQ (sm2 m k) = ((m + k + 2 : Nat) : Int) := by
  have e1 : sm1 m = ((m + 1 : Nat) : Int) := by unfold sm1; rw [wrapF_in (by omega) (by omega)]; omega
  have e2 : sm2 m k = ((m + k + 2 : Nat) : Int) := by unfold sm2; rw [e1, wrapF_in (by omega) (by omega)]; omega
  refine ⟨e1, e2, ?_⟩
  unfold szQ
  rw [e2, show wrapF .i64 (((0 : Nat) : Int) - ((0 : Nat) : Int)) = 0 from rfl, wrapF_in (by omega) (by omega)]; omega
theorem aN_sel {b : Bool} {t : NT} (h : b = true) : (aN b t).sel = t.sel := by rw [h]; rfl
theorem nN_sel {b : Bool} {t : NT} (h : b = false) : (nN b t).sel = t.sel := by rw [h]; rfl
theorem chk_sel {P S : List Pt} {m k : Nat} {t : NT} (hP : P.length = m + 1) (hS : S.length = k + 1) (h : m + k < 900000) : (chk (flatP P) (flatP S) m k (sm2 m k) (szQ (sm2 m k)) t).sel = t.sel := by
  obtain ⟨e1, e2, e3⟩ := sm_eq h
  have hp : (flatP P).length = (m + 1) * 2 := by rw [flatP_len, hP]
  have hs : (flatP S).length = (k + 1) * 2 := by rw [flatP_len, hS]
  have hc1 : (cat1 (flatP P) m ((m + k + 2 : Nat) : Int)).length = (m + k + 2) * 2 := by
    unfold cat1 putR
    simp only [List.length_append, List.length_take, List.length_drop, zB_len, hp, Int.toNat_natCast]; omega
  have r1 : roomB (m + 1) (m + 1) 0 ((((m + k + 2 : Nat) : Int)).toNat - 0) 2 0 (flatP P) (zB (((m + k + 2 : Nat) : Int)).toNat) = true := by
    unfold roomB
    rw [zB_len, hp, List.drop_zero, List.take_of_length_le (by omega), flatP_one]
    simp only [Bool.and_eq_true, decide_eq_true_eq, Int.toNat_natCast, and_true]
    omega
  have r2 : roomB (k + 1) (k + 1) (0 + (m + 1)) ((((m + k + 2 : Nat) : Int)).toNat - 0) 2 0 (flatP S) (cat1 (flatP P) m ((m + k + 2 : Nat) : Int)) = true := by
    unfold roomB
    rw [hc1, hs, List.drop_zero, List.take_of_length_le (by omega), flatP_one]
    simp only [Bool.and_eq_true, decide_eq_true_eq, Int.toNat_natCast, and_true]
    omega
  unfold chk
  rw [e3, e1, e2, nN_sel (by rw [ltF_eq]; exact decide_eq_false (by omega)), nN_sel (by rw [ltF_eq]; exact decide_eq_false (by omega)), nN_sel (by rw [ltF_eq]; exact decide_eq_false (by omega)), aN_sel (by rw [ltF_eq]; exact decide_eq_true (by omega)),
    aN_sel (by rw [ltF_eq, leF_eq, decide_eq_true (by omega), decide_eq_true (by omega)]; rfl), aN_sel (by rw [leF_eq, leF_eq, leF_eq, decide_eq_true (by omega), decide_eq_true (by omega), decide_eq_true (by omega)]; rfl), aN_sel r1, aN_sel r2]
def eJ (X : List Pt) : Int := fst2 (firstF (eIx (flatP X)) X.length 0) (firstF (eOr (-1) (flatP X)) X.length 0)
theorem endJ_ok {X : List Pt} {b : Nat} (h1 : 1 ≤ X.length) (h : X.length < 1000000) (he : eJ X = 0) : (endJ (flatP X) X.length X.length b).sel = some (b, .tup (RV (flatP X) X.length).length (RV (flatP X) X.length).length (flatP (RV (flatP X) X.length)) 67 2 false (i 0)) := by
  have hok := okP_flat (a := X) (by omega)
  unfold endJ
  rw [aN_sel (tru_iff.2 hok), aN_sel (tru_iff.2 hok), aN_sel (tru_iff.2 (okI2 _ _))]
  rw [show fst2 (firstF (eIx (flatP X)) X.length 0) (firstF (eOr (-1) (flatP X)) X.length 0) = 0 from he]
  show (aN (tru (TokE (flatP X) X.length X.length)) _).sel = _
  rw [aN_sel (tru_iff.2 ⟨hok, h1, h⟩)]; rfl
theorem endJ_no {X : List Pt} {b : Nat} (h : X.length < 1000000) (he : eJ X ≠ 0) : (endJ (flatP X) X.length X.length b).sel = some (1000000, .old (tp [.slice none 0 0, i (eJ X)])) := by
  have hok := okP_flat (a := X) (by omega)
  unfold endJ
  rw [aN_sel (tru_iff.2 hok), aN_sel (tru_iff.2 hok), aN_sel (tru_iff.2 (okI2 _ _))]
  show (NT.br (!eqF (eJ X) 0) _ _).sel = _
  rw [eqF_d, decide_eq_false he]; rfl
def JE (cs ds : List Value) (m k : Nat) (d : Int) : List Pt := pts cs (m + 1) ++ (pts ds (k + 1)).map (shP d)
def P69 (g : Bool) (cs ds : List Value) (m k : Nat) (d : Int) : Prop := RowE cs (m + 1) ∧ RowE ds (k + 1) ∧ m + k < 900000 ∧ (if g = true then eJ (JE cs ds m k d) = 0 else eJ (JE cs ds m k d) ≠ 0)
def R69 (g : Bool) (X : List Pt) : NRes := cond g (.tup (RV (flatP X) X.length).length (RV (flatP X) X.length).length (flatP (RV (flatP X) X.length)) 67 2 false (i 0)) (.old (tp [.slice none 0 0, i (eJ X)]))
def sp69 (g : Bool) : NSpec := fun al css => match al, css with
  | [.slice (some ⟨1, 0, none⟩) (m + 1) (m2 + 1), .slice (some ⟨2, 0, none⟩) (k + 1) (k2 + 1), .int .i64 d], [cs, ds] => some ((m2 = m ∧ k2 = k) ∧ P69 g cs ds m k d, R69 g (JE cs ds m k d))
  | [.slice (some ⟨1, 0, none⟩) (m + 1) (m2 + 1), .slice (some ⟨1, 0, none⟩) (k + 1) (k2 + 1), .int .i64 d], [cs] => some ((m2 = m ∧ k2 = k ∧ k = m) ∧ P69 g cs cs m k d, R69 g (JE cs cs m k d))
  | _, _ => none
theorem c69 (g : Bool) : ∀ al css os p v, sp69 g al css = some (p, v) → p → Blks css os → (∀ cs ∈ css, cs.all Ex.flat = true) ∧ v.Ok Try.prog 69 al deads os (gl + css.length) := by
  have key : ∀ {cs ds : List Value} {m k : Nat} {d : Int} {b : Nat}, P69 g cs ds m k d → 2 ≤ b → ∃ b', (aN (tru (k = k ∧ RowE ds (k + 1))) (chk cs (shL ds k d) m k (sm2 m k) (szQ (sm2 m k)) (endJ (cat2 cs (shL ds k d) m k (szQ (sm2 m k))) (0 + (m + 1) + (k + 1)) ((szQ (sm2 m k)).toNat - 0) b))).sel = some (b', R69 g (JE cs ds m k d)) ∧ b ≤ max b' b ∧ (b' = b ∨ b' = 1000000) := by
    intro cs ds m k d b hp hb
    obtain ⟨p1, p2, p3, p4⟩ := hp
    have hcs := p1.cells
    have hlp : (pts cs (m + 1)).length = m + 1 := pts_len _ _
    have hls : ((pts ds (k + 1)).map (shP d)).length = k + 1 := by rw [List.length_map, pts_len]
    have hX : (JE cs ds m k d).length = m + k + 2 := by unfold JE; rw [List.length_append, hlp, hls]; omega
    have e3 := (sm_eq p3).2.2
    have hc2 : cat2 cs (shL ds k d) m k (szQ (sm2 m k)) = flatP (JE cs ds m k d) := by
      rw [hcs]
      unfold shL JE
      rw [cat2_eq hlp hls e3, ← hcs]
    rw [hc2, aN_sel (tru_iff.2 ⟨rfl, p2⟩)]
    have hch : ∀ t, (chk cs (shL ds k d) m k (sm2 m k) (szQ (sm2 m k)) t).sel = t.sel := fun t => by
      have := chk_sel (P := pts cs (m + 1)) (S := (pts ds (k + 1)).map (shP d)) (t := t) hlp hls p3
      rw [← hcs] at this
      exact this
    rw [hch, show 0 + (m + 1) + (k + 1) = (JE cs ds m k d).length from by omega, show (szQ (sm2 m k)).toNat - 0 = (JE cs ds m k d).length from by rw [e3, hX, Int.toNat_natCast]; rfl]
    cases g with
    | true => exact ⟨b, endJ_ok (by omega) (by omega) (by simpa using p4), by omega, .inl rfl⟩
    | false => exact ⟨1000000, endJ_no (by omega) (by simpa using p4), by omega, .inr rfl⟩
  have hfl : ∀ X, (R69 g X).Fl := fun X => by
    cases g with
    | true => exact ⟨flatP_flat _, rfl⟩
    | false => exact rfl
  intro al css os p v hs hp hb
  unfold sp69 at hs
  split at hs
  · rename_i m m2 k k2 d cs ds
    cases hs
    obtain ⟨⟨rfl, rfl⟩, hp⟩ := hp
    obtain ⟨t, s, ex, t2, s2, e2, rfl⟩ := blks2 hb
    obtain ⟨P, rfl, _, _⟩ := hp.1
    obtain ⟨Q, rfl, _, _⟩ := hp.2.1
    refine ⟨fun c hc => by
      rcases List.mem_cons.1 hc with rfl | hc
      · exact flatP_flat _
      · rw [List.mem_singleton] at hc; subst hc; exact flatP_flat _, ?_⟩
    obtain ⟨b', h1, h2, h3⟩ := key (b := 7) hp (by decide)
    exact news_ok (C := CX4 false) (n := 80) (tsX4 false) .none (x69 _ _ t s m2 t2 s2 k2 ex e2 d) (b := b') ((congrArg NT.sel (v69 _ _ t s m2 t2 s2 k2 ex e2 d)).trans h1) (show 3 ≤ b' from by rcases h3 with rfl | rfl <;> decide) (hfl _)
  · rename_i m m2 k k2 d cs
    cases hs
    obtain ⟨⟨rfl, rfl, rfl⟩, hp⟩ := hp
    obtain ⟨t, s, ex, rfl⟩ := blks1 hb
    obtain ⟨P, rfl, _, _⟩ := hp.1
    refine ⟨fun c hc => by rw [List.mem_singleton] at hc; subst hc; exact flatP_flat _, ?_⟩
    obtain ⟨b', h1, h2, h3⟩ := key (b := 6) hp (by decide)
    exact news_ok (C := CX4 false) (n := 80) (tsX4 false) .none (x69s _ t s _ ex d) (b := b') ((congrArg NT.sel (v69s _ t s _ ex d)).trans h1) (show 2 ≤ b' from by rcases h3 with rfl | rfl <;> decide) (hfl _)
  · cases hs
end Go.Proofs.Ytphadgdlknhbnaa.Ways
