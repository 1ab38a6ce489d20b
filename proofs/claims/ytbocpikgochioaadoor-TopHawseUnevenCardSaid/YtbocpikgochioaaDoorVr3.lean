/- For every input nacelletop.TopHawseUneven returns true, and each argument reads afterwards as it read before: three equal blades with the same pitch have no component, one that is pitched otherwise gives the difference of its torque, turned by its place, its norm is the square, the loads are merged again, and the rotating part of three such loads is three times the component and the fixed one nothing, for any blade, flow and three numbers. Conditions: the four package-level tables hold what the program's text lays. -/
import Derived.Test.YtbocpikgochioaaDoorVr2
import Derived.Test.YtbocpikgochioaaDoorEngCard
import Derived.Test.YtbocpikgochioaaDoorCards
import Derived.Test.YtbocpikgochioaaDoorTie
namespace Go.Proofs.YtbocpikgochioaaDoor.Uneven
open Go Go.Ex Go.ChangeShapes Go.WideShapes Go.ChangeAt Go.RowKit Go.Proofs.YtbocpikgochioaaDoor.Ways
theorem own : ownKnob Tryd.prog.godebug = none := by kernel_rfl
theorem laidOut : laidOutB Tryd.prog = true := by kernel_rfl
theorem laid_world {W : World} (hs : W.ShapedOpen Tryd.prog) (hL : laidMetH Tryd.prog Rows.topHawseUnevenRow.laid W) : Laid Hg W := by
  have hL' : laidMet Tryd.prog Rows.topHawseUnevenRow.laid W := hL
  intro b o ho ha
  refine LaidAt.weak ?_
  obtain ⟨rfl, rfl⟩ := hg_get ho ha
  exact laid_at 0 6 hs hL' rfl (by kernel_rfl) (of_decide_eq_true (by kernel_rfl)) (t0 := 149) (by kernel_rfl) (by kernel_rfl) (by kernel_rfl) (by kernel_rfl) clean0
def k1 : List CK := [.i .i64]
def k3f : List CK := [.i .i64, .i .i64, .i .i64]
theorem kinds29 : kindsOkB Tryd.prog 6 29 k3f = true := by kernel_rfl
theorem kinds3 : kindsOkB Tryd.prog 6 3 k1 = true := by kernel_rfl
theorem kinds69 : kindsOkB Tryd.prog 6 69 k4 = true := by kernel_rfl
theorem cells29 : Tryd.prog.cellsOf 29 = k3f.length := by kernel_rfl
theorem cells3 : Tryd.prog.cellsOf 3 = k1.length := by kernel_rfl
theorem cells69 : Tryd.prog.cellsOf 69 = k4.length := by kernel_rfl
theorem agg29 : aggB Tryd.prog 29 = some true := by kernel_rfl
theorem und22 : Tryd.prog.underlying 22 = some (.slice 3) := by kernel_rfl
theorem und25 : Tryd.prog.underlying 25 = some (.slice 69) := by kernel_rfl
theorem read27 : Tryd.prog.readableRec 27 = true := by kernel_rfl
theorem read29 : Tryd.prog.readableRec 29 = true := by kernel_rfl
theorem row27 : 27 < Tryd.prog.types.size := of_decide_eq_true (by kernel_rfl)
def k3u : List CK := [.i .u8, .i .u8, .i .u8]
theorem kinds74 : kindsOkB Tryd.prog 6 74 k3u = true := by kernel_rfl
theorem cells74 : Tryd.prog.cellsOf 74 = k3u.length := by kernel_rfl
theorem agg74 : aggB Tryd.prog 74 = some true := by kernel_rfl
theorem read74 : Tryd.prog.readableRec 74 = true := by kernel_rfl
theorem row74 : 74 < Tryd.prog.types.size := of_decide_eq_true (by kernel_rfl)
theorem u8_bd {v : Option Value} (h : isCellB (.i .u8) v = true) (hw : wfCell v) : 0 ≤ intO v ∧ intO v ≤ 255 := by
  have e := cellAt_eq h
  have hc : ∃ n : Int, v = some (.int .u8 n) := ⟨intO v, e⟩
  obtain ⟨n, rfl⟩ := hc
  have := hw .u8 n rfl
  have h2 : (decide (IntKind.min .u8 ≤ n) && decide (n ≤ IntKind.max .u8)) = true := this
  rw [Bool.and_eq_true, decide_eq_true_eq, decide_eq_true_eq] at h2
  have m1 : IntKind.min .u8 = 0 := by decide
  have m2 : IntKind.max .u8 = 255 := by decide
  rw [m1, m2] at h2
  exact h2
theorem row29 : 29 < Tryd.prog.types.size := of_decide_eq_true (by kernel_rfl)
theorem und4 : Tryd.prog.underlying 4 = some .bool := by kernel_rfl
theorem ct27 : Tryd.prog.cellTypes Tryd.prog.depth 27 = some [22, 22, 25] := by kernel_rfl
/-! ### a struct of slices -/
def structB (P : Program) (t : TypeId) (l : List (Nat × Nat)) : Bool :=
  match P.underlying t with
  | some (.struct fs) => (fs.toList.map fun f => (f.type, f.offset)) == l
  | _ => false
theorem structB_eq {P : Program} {t : TypeId} {l : List (Nat × Nat)} (h : structB P t l = true) : ∃ fs : Array Field, P.underlying t = some (.struct fs) ∧ (fs.toList.map fun f => (f.type, f.offset)) = l := by
  unfold structB at h
  split at h
  · rename_i fs hu
    exact ⟨fs, hu, by simpa using h⟩
  · cases h
theorem trod_field {H : Type} {enc : TypeId × Value → H} {P : Program} {w : World} {base : Nat} {spare : Nat → Bool} {held : Bool} {t : TypeId} {fuel : Nat} {cs : List Value} {x : DataW H × List MemPlace} {l : List (Nat × Nat)} (hs : structB P t l = true) (h : DataW.trod enc P w base spare held fuel t cs = some x) {j ty off : Nat} (hj : l[j]? = some (ty, off)) :
    ∃ n y, DataW.trod enc P w base spare held n ty ((cs.drop off).take (P.cellsOf ty)) = some y := by
  obtain ⟨fs, hu, hl⟩ := structB_eq hs
  obtain ⟨xs, n, _, _, _, hlen, hf⟩ := DataW.trod_struct hu h
  subst hl
  rw [List.getElem?_map] at hj
  obtain ⟨f, hf1, hf2⟩ := map_some' hj
  have hf3 : fs[j]? = some f := by simpa using hf1
  have h1 := hf j f hf3
  have hjl : j < xs.length := by rw [hlen]; exact (Array.getElem?_eq_some_iff.1 hf3).1
  rw [List.getElem?_eq_getElem hjl] at h1
  simp only [Prod.mk.injEq] at hf2
  obtain ⟨e1, e2⟩ := hf2
  rw [e1, e2] at h1
  exact ⟨n, _, h1⟩
theorem st27 : structB Tryd.prog 27 [(24, 0), (25, 2)] = true := by kernel_rfl
theorem st24 : structB Tryd.prog 24 [(22, 0), (22, 1)] = true := by kernel_rfl
theorem c27 : Tryd.prog.cellsOf 27 = 3 := by kernel_rfl
theorem c24 : Tryd.prog.cellsOf 24 = 2 := by kernel_rfl
theorem c22 : Tryd.prog.cellsOf 22 = 1 := by kernel_rfl
theorem c25 : Tryd.prog.cellsOf 25 = 1 := by kernel_rfl
/-- a blade that came in -/
structure BladeArg (W : World) (v : Value) (x1 x2 x3 : Value) (cs1 cs2 cs3 : List Value) (n1 n2 n t1 s1 t2 s2 t3 s3 : Nat) (en1 en2 en3 : En) : Prop where
  val : v = .agg #[x1, x2, x3]
  a1 : SliceArg W k1 x1 cs1 n1 t1 s1 en1
  a2 : SliceArg W k1 x2 cs2 n2 t2 s2 en2
  a3 : SliceArg W k4 x3 cs3 n t3 s3 en3
set_option maxRecDepth 100000 in
theorem open_blade {H : Type} {enc : TypeId × Value → H} {W : World} {r : Reach} {b0 : Nat} {v : Value} {d : DataW H} {p : List MemPlace} (h0 : (W.heap[0]?).isSome = true) (hok : Value.okWide Tryd.prog W r b0 27 v) (h : DataW.Trod enc Tryd.prog W 0 (fun _ => true) true 27 v d p) :
    ∃ x1 x2 x3 cs1 cs2 cs3 n1 n2 n t1 s1 t2 s2 t3 s3 en1 en2 en3, BladeArg W v x1 x2 x3 cs1 cs2 cs3 n1 n2 n t1 s1 t2 s2 t3 s3 en1 en2 en3 := by
  obtain ⟨fs, hu, _⟩ := structB_eq st27
  unfold Value.okWide at hok
  rw [hu] at hok
  obtain ⟨cs, rfl, hsz, ts, hts, _, hcell⟩ := hok
  rw [ct27] at hts
  cases hts
  rw [c27] at hsz
  obtain ⟨fuel, hf⟩ := h
  have hcs : (Value.agg cs).cells.toList = cs.toList := rfl
  rw [hcs] at hf
  obtain ⟨l⟩ := cs
  match l, hsz with
  | [x1, x2, x3], _ =>
    obtain ⟨m1, y1, g1⟩ := trod_field st27 hf (j := 0) rfl
    obtain ⟨m2, y2, g2⟩ := trod_field st27 hf (j := 1) rfl
    rw [c24] at g1
    rw [c25] at g2
    obtain ⟨m3, y3, g3⟩ := trod_field st24 g1 (j := 0) rfl
    obtain ⟨m4, y4, g4⟩ := trod_field st24 g1 (j := 1) rfl
    rw [c22] at g3 g4
    have ok : ∀ (j : Nat) (u : TypeId) (x : Value), ([x1, x2, x3])[j]? = some x → ([22, 22, 25] : List TypeId)[j % 3]? = some u → Cell.okWide Tryd.prog W r b0 u x := by
      intro j u x hx hu'
      obtain ⟨u', e1, e2⟩ := hcell j x (by simpa using hx)
      have : u' = u := Option.some.inj (e1.symm.trans hu')
      subst this
      exact e2
    obtain ⟨cs1, n1, t1, s1, en1, q1⟩ := open_arg k1 6 und22 cells3 kinds3 h0 (ok 0 22 x1 rfl rfl) g3
    obtain ⟨cs2, n2, t2, s2, en2, q2⟩ := open_arg k1 6 und22 cells3 kinds3 h0 (ok 1 22 x2 rfl rfl) g4
    obtain ⟨cs3, n, t3, s3, en3, q3⟩ := open_arg k4 6 und25 cells69 kinds69 h0 (ok 2 25 x3 rfl rfl) g2
    exact ⟨x1, x2, x3, cs1, cs2, cs3, n1, n2, n, t1, s1, t2, s2, t3, s3, en1, en2, en3, ⟨rfl, q1, q2, q3⟩⟩
theorem heapA_len (cs1 : List Value) (t1 s1 : Nat) (cs2 : List Value) (t2 s2 : Nat) (cs3 : List Value) (t3 s3 : Nat) : (heapL (hpU cs1 t1 s1 cs2 t2 s2 cs3 t3 s3)).length = gl + 3 := by rw [heapL_len]; rfl
theorem heapA_same (cs1 : List Value) (t1 s1 : Nat) (cs2 : List Value) (t2 s2 : Nat) (cs3 : List Value) (t3 s3 : Nat) : ∀ b, b < gl → (heapL (hpU cs1 t1 s1 cs2 t2 s2 cs3 t3 s3))[b]? = Hg[b]? := by
  intro b hb
  rw [heapL_get]
  match b, hb with
  | 0, _ => rfl
  | 1, _ => rfl
  | 2, _ => rfl
  | 3, _ => rfl
theorem okI_of {W : World} {v : Value} {cs : List Value} {n t s : Nat} {en : En} (h : SliceArg W k1 v cs n t s en) (hn : n ≤ 1000000) : OkI cs n n ∧ cs.length = n := by
  refine ⟨⟨h.flat, fun j hj => ?_, Nat.le_refl _, hn⟩, by have := h.len; simpa [k1] using this⟩
  have := h.kinds j hj
  unfold k1 areCells areCells at this
  simpa using this
theorem ring_of {W : World} {v : Value} {cs : List Value} {n t s : Nat} {en : En} (h : SliceArg W k4 v cs n t s en) : cs = ringC (rhoE cs) n := by
  have hl : cs.length = n * 4 := h.len
  apply List.ext_getElem?
  intro j
  unfold ringC
  rw [List.getElem?_map]
  rcases Nat.lt_or_ge j (n * 4) with hj | hj
  · rw [List.getElem?_range hj]
    have hk := h.kinds (j / 4) (by omega)
    have hc : ∀ m, m < 4 → isCellB (.i .i64) cs[0 + j / 4 * 4 + m]? = true := by
      intro m hm
      unfold k4 areCells areCells areCells areCells areCells at hk
      simp only [Bool.and_eq_true, Bool.and_true, List.length_cons, List.length_nil] at hk
      obtain ⟨k1, k2, k3, k4⟩ := hk
      match m, hm with
      | 0, _ => exact k1
      | 1, _ => exact k2
      | 2, _ => exact k3
      | 3, _ => exact k4
    have hj4 := hc (j % 4) (Nat.mod_lt _ (by decide))
    rw [show 0 + j / 4 * 4 + j % 4 = j from by omega] at hj4
    rw [cellAt_eq hj4]
    rfl
  · rw [List.getElem?_eq_none (by omega), List.getElem?_eq_none (by simpa using hj)]; rfl
theorem vrs_three {E : Env} {a b c a' b' c' : Value} (h1 : VR E a a') (h2 : VR E b b') (h3 : VR E c c') : VRs E ⟨[a, b, c]⟩ #[a', b', c'] := by
  refine ⟨rfl, fun i x x' hx hx' => ?_⟩
  match i, hx, hx' with
  | 0, hx, hx' => cases hx; cases hx'; exact h1
  | 1, hx, hx' => cases hx; cases hx'; exact h2
  | 2, hx, hx' => cases hx; cases hx'; exact h3
  | k + 3, hx, _ => simp at hx
theorem vr_agg3 {E : Env} {a b c a' b' c' : Value} (h1 : VR E a a') (h2 : VR E b b') (h3 : VR E c c') : VR E (.agg ⟨[a, b, c]⟩) (.agg #[a', b', c']) :=
  .agg rfl (vrs_three h1 h2 h3).at_
/-- the call returns true -/
theorem law_calls {W : World} {v x1 x2 x3 : Value} {cs1 cs2 cs3 : List Value} {n1 n2 n t1 s1 t2 s2 t3 s3 : Nat} {en1 en2 en3 : En} {w s q xa xb xc : Int} (ux : 0 ≤ xa ∧ xa ≤ 255) (uy : 0 ≤ xb ∧ xb ≤ 255) (uz : 0 ≤ xc ∧ xc ≤ 255) (hv : Laid Hg W) (h : BladeArg W v x1 x2 x3 cs1 cs2 cs3 n1 n2 n t1 s1 t2 s2 t3 s3 en1 en2 en3) :
    Calls Tryd.prog Fn.top_Uneven #[v, flV w s q, ag [u8 xa, u8 xb, u8 xc]] W fun e W' => e = .returned (b_ true) ∧ Below W.heap.size W W' := by
  obtain ⟨rfl, h1, h2, h3⟩ := h
  have hw := WR.startA (W := W) (Hv := Hg) (H := heapL (hpU cs1 t1 s1 cs2 t2 s2 cs3 t3 s3)) (es := [en1, en2, en3]) (by rw [heapA_len]; rfl) hv (heapA_same cs1 t1 s1 cs2 t2 s2 cs3 t3 s3) (fun j e hj => by
    match j, hj with
    | 0, hj => cases hj; exact ⟨.cells cs1 t1 s1 false, by rw [heapL_get]; rfl, h1.at_⟩
    | 1, hj => cases hj; exact ⟨.cells cs2 t2 s2 false, by rw [heapL_get]; rfl, h2.at_⟩
    | 2, hj => cases hj; exact ⟨.cells cs3 t3 s3 false, by rw [heapL_get]; rfl, h3.at_⟩
    | j + 3, hj => simp at hj)
  have ha : VRs (startE gl ++ [en1, en2, en3]) ⟨[blV n1 n1 n2 n2 (sl 6 0 n n), flV w s q, ag [u8 xa, u8 xb, u8 xc]]⟩ #[.agg #[x1, x2, x3], flV w s q, ag [u8 xa, u8 xb, u8 xc]] :=
    vrs_three (vr_agg3 (h1.vr _ 4 rfl) (h2.vr _ 5 rfl) (h3.vr _ 6 rfl)) (VR.of_clean _ 7 _ rfl) (VR.of_clean _ 7 _ rfl)
  obtain ⟨H', hs⟩ := uneven_true (t1 := t1) (s1 := s1) (t2 := t2) (s2 := s2) (t3 := t3) (s3 := s3) (w := w) (s := s) (q := q) (xa := xa) (xb := xb) (xc := xc) ux uy uz h1.flat h2.flat h3.flat fun hf m1 m2 => ⟨(okI_of h1 m1).1, (okI_of h1 m1).2, (okI_of h2 m2).1, (okI_of h2 m2).2, ring_of h3, fun j hj => h3.kinds j hj, hf⟩
  refine calls_args (H' := H') hw ha rfl ?_
  rw [heapA_len]
  exact hs
theorem heap0 {W : World} (hv : Laid Hg W) : (W.heap[0]?).isSome = true := by
  obtain ⟨_, _, _, _, _, fz, h⟩ := hv 0 (.cells powers 149 1 true) rfl rfl
  rw [h]; rfl
set_option maxRecDepth 100000 in
theorem contract (H : Type) (enc : TypeId × Value → H) (W : World) (base : Nat) (args : Array Value) (ds gs : List (DataW H)) (before : List MemPlace)
    (hval : ∀ (j : Nat) t v, Tryd.f7.params[j]? = some t → args[j]? = some v → Value.okWide Tryd.prog W .any base t v)
    (hW : DataW.Whole enc Tryd.prog Tryd.f7.params.toList Rows.topHawseUnevenSpec.vars false W args.toList ds gs before) (hL : laidMetH Tryd.prog Rows.topHawseUnevenRow.laid W) (hs : W.ShapedOpen Tryd.prog) :
    Calls Tryd.prog 7 args W fun e W' => ∃ v, e = .returned v ∧ Rows.topHawseUnevenSpec.post enc Tryd.prog Tryd.f7 false true false false W args v W' := by
  have hW' := hW
  obtain ⟨p, q, hA0, hV, rfl, hfz, hnd⟩ := hW
  have hA : DataW.TrodAll enc Tryd.prog W 0 (fun _ => true) true Tryd.f7.params.toList args.toList ds p := hA0
  rw [Tryd.params7] at hA hval
  obtain ⟨v0, v1, v2, d0, d1, d2, p0, p1, p2, rfl, rfl, rfl, h0, h1, h2⟩ := trodAll_three hA
  obtain ⟨rfl, rfl⟩ := trodVars_none hV
  clear hA0
  have hlw := laid_world hs hL
  obtain ⟨x1, x2, x3, cs1, cs2, cs3, n1, n2, n, t1, s1, t2, s2, t3, s3, en1, en2, en3, hb⟩ := open_blade (heap0 hlw) (hval 0 27 v0 rfl rfl) h0
  obtain ⟨c1, hv1, _, _⟩ := open_flat k3f 6 agg29 cells29 kinds29 (hval 1 29 v1 rfl rfl) h1
  obtain ⟨c2, hv2, ha2, hw2⟩ := open_flat k3u 6 agg74 cells74 kinds74 (hval 2 74 v2 rfl rfl) h2
  have hq2 := ha2
  unfold k3u areCells areCells areCells at hq2
  rw [Bool.and_eq_true, Bool.and_eq_true] at hq2
  obtain ⟨q0, q1, q2⟩ := hq2
  rw [Bool.and_eq_true] at q2
  have hlt := fun x hx => hW'.lt x hx
  subst hv1
  subst hv2
  refine (law_calls (w := intO c1[0]?) (s := intO c1[0 + 1]?) (q := intO c1[0 + 1 + 1]?) (xa := intO c2[0]?) (xb := intO c2[0 + 1]?) (xc := intO c2[0 + 1 + 1]?) (u8_bd q0 (hw2 _)) (u8_bd q1 (hw2 _)) (u8_bd q2.1 (hw2 _)) hlw hb).mono fun e W' ⟨he, hbl⟩ => ?_
  subst he
  refine ⟨_, rfl, post_of_below (pa := p0 ++ (p1 ++ p2)) (pv := []) hW' (fun _ _ _ => trodAll_mk1 (shut_bool und4 _)) (fun sp hsp => ?_) (fun _ _ => rfl) (by simp) hbl (ok_one (by kernel_rfl) rfl (okWide_bool_mk und4 _))⟩
  rw [Tryd.params7]
  exact trodAll_mk3 (stays laidOut read27 row27 h0 hbl (fun x hx => hlt x (by simp [hx])) (fun x hx => hsp x (by simp [hx])))
    (stays laidOut read29 row29 h1 hbl (fun x hx => hlt x (by simp [hx])) (fun x hx => hsp x (by simp [hx])))
    (stays laidOut read74 row74 h2 hbl (fun x hx => hlt x (by simp [hx])) (fun x hx => hsp x (by simp [hx])))
/-- A WORLD FOR THE WITNESS: the settled one, each table holding what its initialiser lays. -/
noncomputable def put1 (b : Nat) (l : List Value) (h : Array Obj) : Array Obj := h.modify b fun
  | .cells _ t frozen => .cells ⟨l⟩ t frozen
  | o => o
noncomputable def laidWorld (os : Os) : World :=
  { World.holding Tryd.prog os ⟨#[], #[], []⟩ with heap := put1 3 tab64 (put1 2 tab32 (put1 1 pow10 (put1 0 powers (World.holding Tryd.prog os ⟨#[], #[], []⟩).heap))) }
def wit : Array Value := #[.agg #[.slice none 0 0, .slice none 0 0, .slice none 0 0], .agg #[.int .i64 0, .int .i64 0, .int .i64 0], .agg #[.int .u8 0, .int .u8 0, .int .u8 0]]
theorem laid_met (os : Os) : laidMet Tryd.prog Rows.topHawseUnevenRow.laid ((laidWorld os).forCall (fun _ _ => 0) ⟨#[], wit, []⟩).memory :=
  laidMet_of_run' 8 (by kernel_rfl) (by kernel_rfl)
theorem reads (os : Os) {H : Type} (enc : TypeId × Value → H) : ∃ places, DataW.whole enc Tryd.prog ((laidWorld os).forCall (fun _ _ => 0) ⟨#[], wit, []⟩).memory Tryd.f7.params.toList Rows.topHawseUnevenSpec.vars false wit.toList 8 =
    some ([.agg [.agg [.nil, .nil], .nil], .agg [.lit (.int .i64 0), .lit (.int .i64 0), .lit (.int .i64 0)], .agg [.lit (.int .u8 0), .lit (.int .u8 0), .lit (.int .u8 0)]], [], places) :=
  ⟨[], by kernel_rfl⟩
set_option maxRecDepth 100000 in
theorem lifted (os : Os) (started : os.Started) (H : Type) (enc : TypeId × Value → H) (F : Stop.Interp) :
    ReturnsInHanded {} Tryd.checked os 7 .any ((OpenSpec.ofChange Rows.topHawseUnevenSpec).preRow enc Tryd.prog Tryd.f7 Rows.topHawseUnevenRow.domain false Rows.topHawseUnevenRow.laid) (((OpenSpec.ofChange Rows.topHawseUnevenSpec).at F).post enc Tryd.prog Tryd.f7 false true false false) := by
  obtain ⟨places, hx⟩ := reads os enc
  refine returnsInHanded_of_row (C := Tryd.checked) (s := OpenSpec.ofChange Rows.topHawseUnevenSpec) own started (by kernel_rfl) Tryd.func7
    (witness_row_at (enc := enc) (C := Tryd.checked) false (laidWorld os) wit rfl (by kernel_rfl) (by kernel_rfl) (by kernel_rfl)
      (OpenSpec.preRow_of_cond 8 hx (by kernel_rfl) (fun k hk => by cases hk) (by kernel_rfl) (laid_met os))) ?_
  intro W base args ds gs before hval hW _ _ _ hL hs _
  exact contract H enc W base args ds gs before hval hW hL hs
theorem said : Rows.TopHawseUnevenSaid :=
  OpenClaim.holds_of_cond 7 Tryd.f7 rfl rfl rfl rfl rfl rfl rfl ⟨rfl, rfl, rfl, rfl, rfl⟩ rfl rfl rfl rfl rfl (by kernel_rfl) Tryd.func7 (by kernel_rfl)
    (of_decide_eq_true (by kernel_rfl)) (by unfold Func.isWrapper; first | (rw [if_pos (by decide +kernel)]; kernel_rfl) | (rw [if_neg (by decide +kernel)]; exact ⟨rfl, rfl⟩))
    (fun os started H enc _ F => by rw [OpenClaim.pre_eq_preRow]; exact lifted os started H enc F)
theorem plain (f : FuncId) (fn : Func) (hf : Tryd.pinned.checked.prog.funcNamed "nacelle/nacelletop.TopHawseUneven" = some f) (hfn : Tryd.pinned.checked.prog.funcs[f]? = some fn) :
    false = Tryd.pinned.checked.prog.looks [] ∧ ∀ (j : Nat) t, fn.params[j]? = some t → Tryd.pinned.checked.prog.wantsStandIn t = false := by
  obtain rfl : f = 7 := Option.some.inj ((show Tryd.prog.funcNamed "nacelle/nacelletop.TopHawseUneven" = some 7 by kernel_rfl).symm.trans hf) |>.symm
  obtain rfl : fn = Tryd.f7 := (Option.some.inj (Tryd.func7.symm.trans hfn)).symm
  refine ⟨by kernel_rfl, fun j t ht => ?_⟩
  rw [Tryd.params7] at ht
  have hm : t ∈ [27, 29, 74] := by simpa using Array.mem_of_getElem? ht
  have hall : ([27, 29, 74].all fun u => !Tryd.prog.wantsStandIn u) = true := by kernel_rfl
  exact (show Tryd.prog.wantsStandIn t = false by simpa using List.all_eq_true.1 hall t hm)
end Go.Proofs.YtbocpikgochioaaDoor.Uneven
namespace Go.Proofs.YtbocpikgochioaaDoor
/-- ████ THE CARD ████ -/
theorem uneven_card : Rows.TopHawseUnevenCardSaid :=
  Claim7.holds_tied_plain_at .later [] _ _ _ _ Uneven.said (fun _ h => by cases h) (by kernel_rfl) (fun _ h => by cases h) topHawseUneven_row_tie rfl ⟨rfl, rfl⟩ (by kernel_rfl) rfl Uneven.plain (by kernel_rfl)
end Go.Proofs.YtbocpikgochioaaDoor
