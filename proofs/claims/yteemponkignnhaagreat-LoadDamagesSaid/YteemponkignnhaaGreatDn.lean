/- For every input nacellelaw07.LoadDamages returns true, and its argument reads afterwards as it read before: Damage, Half, Twice and Equivalent return the results or the errors of the reference. Conditions: none. -/
import Derived.Test.YteemponkignnhaaGreatD1
import Derived.Test.YteemponkignnhaaGreatEngArg
import Derived.Test.YteemponkignnhaaGreatRows
import Derived.Test.YteemponkignnhaaGreatLr6
namespace Go.Proofs.YteemponkignnhaaGreat.DamagesL
open Go Go.Ex Go.ChangeShapes Go.WideShapes Go.ChangeAt Go.RowKit Go.Proofs.YteemponkignnhaaGreat.Ways
theorem own : ownKnob Tryz.prog.godebug = none := by kernel_rfl
theorem laidOut : laidOutB Tryz.prog = true := by kernel_rfl
def k1 : List CK := [.i .i64]
theorem kinds3 : kindsOkB Tryz.prog 6 3 k1 = true := by kernel_rfl
theorem cells3 : Tryz.prog.cellsOf 3 = k1.length := by kernel_rfl
theorem und42 : Tryz.prog.underlying 42 = some (.slice 3) := by kernel_rfl
theorem kinds93 : kindsOkB Tryz.prog 6 93 k2 = true := by kernel_rfl
theorem cells93 : Tryz.prog.cellsOf 93 = k2.length := by kernel_rfl
theorem und23 : Tryz.prog.underlying 23 = some (.slice 93) := by kernel_rfl
theorem kinds96 : kindsOkB Tryz.prog 6 96 k4 = true := by kernel_rfl
theorem cells96 : Tryz.prog.cellsOf 96 = k4.length := by kernel_rfl
theorem und22 : Tryz.prog.underlying 22 = some (.slice 96) := by kernel_rfl
theorem und3 : Tryz.prog.underlying 3 = some (.int .i64) := by kernel_rfl
theorem und4 : Tryz.prog.underlying 4 = some .bool := by kernel_rfl
theorem ct54 : Tryz.prog.cellTypes Tryz.prog.depth 54 = some [22, 23, 42, 3, 3] := by kernel_rfl
theorem read54 : Tryz.prog.readableRec 54 = true := by kernel_rfl
theorem row54 : 54 < Tryz.prog.types.size := of_decide_eq_true (by kernel_rfl)
theorem c54 : Tryz.prog.cellsOf 54 = 5 := by kernel_rfl
theorem c22 : Tryz.prog.cellsOf 22 = 1 := by kernel_rfl
theorem c23 : Tryz.prog.cellsOf 23 = 1 := by kernel_rfl
theorem c42 : Tryz.prog.cellsOf 42 = 1 := by kernel_rfl
def structB (P : Program) (t : TypeId) (l : List (Nat × Nat)) : Bool :=
  match P.underlying t with
  | some (.struct fs) => (fs.toList.map fun f => (f.type, f.offset)) == l
  | _ => false
theorem structB_eq {P : Program} {t : TypeId} {l : List (Nat × Nat)} (h : structB P t l = true) : ∃ fs : Array Field, P.underlying t = some (.struct fs) ∧ (fs.toList.map fun f => (f.type, f.offset)) = l := by
  unfold structB at h
  split at h
  · rename_i fs hu
    exact ⟨fs, hu, by simpa using h⟩
  · cases h
theorem trod_field {H : Type} {enc : TypeId × Value → H} {P : Program} {w : World} {base : Nat} {spare : Nat → Bool} {held : Bool} {t : TypeId} {fuel : Nat} {cs : List Value} {x : DataW H × List MemPlace} {l : List (Nat × Nat)} (hs : structB P t l = true) (h : DataW.trod enc P w base spare held fuel t cs = some x) {j ty off : Nat} (hj : l[j]? = some (ty, off)) :
    ∃ n y, DataW.trod enc P w base spare held n ty ((cs.drop off).take (P.cellsOf ty)) = some y := by
  obtain ⟨fs, hu, hl⟩ := structB_eq hs
  obtain ⟨xs, n, _, _, _, hlen, hf⟩ := DataW.trod_struct hu h
  subst hl
  rw [List.getElem?_map] at hj
  obtain ⟨f, hf1, hf2⟩ := map_some' hj
  have hf3 : fs[j]? = some f := by simpa using hf1
  have h1 := hf j f hf3
  have hjl : j < xs.length := by rw [hlen]; exact (Array.getElem?_eq_some_iff.1 hf3).1
  rw [List.getElem?_eq_getElem hjl] at h1
  simp only [Prod.mk.injEq] at hf2
  obtain ⟨e1, e2⟩ := hf2
  rw [e1, e2] at h1
  exact ⟨n, _, h1⟩
theorem st54 : structB Tryz.prog 54 [(22, 0), (23, 1), (42, 2), (3, 3), (3, 4)] = true := by kernel_rfl
structure PowArg (W : World) (v : Value) (x1 x2 x3 : Value) (cs ds ls : List Value) (n m k t1 s1 t2 s2 t3 s3 : Nat) (en1 en2 en3 : En) (e N : Int) : Prop where
  val : v = .agg #[x1, x2, x3, .int .i64 e, .int .i64 N]
  a1 : SliceArg W k4 x1 cs n t1 s1 en1
  a2 : SliceArg W k2 x2 ds m t2 s2 en2
  a3 : SliceArg W k1 x3 ls k t3 s3 en3
set_option maxRecDepth 100000 in
theorem open_pow {H : Type} {enc : TypeId × Value → H} {W : World} {r : Reach} {b0 : Nat} {v : Value} {d : DataW H} {p : List MemPlace} (h0 : (W.heap[0]?).isSome = true) (hok : Value.okWide Tryz.prog W r b0 54 v) (h : DataW.Trod enc Tryz.prog W 0 (fun _ => true) true 54 v d p) :
    ∃ x1 x2 x3 cs ds ls n m k t1 s1 t2 s2 t3 s3 en1 en2 en3 e N, PowArg W v x1 x2 x3 cs ds ls n m k t1 s1 t2 s2 t3 s3 en1 en2 en3 e N := by
  obtain ⟨fs, hu, _⟩ := structB_eq st54
  unfold Value.okWide at hok
  rw [hu] at hok
  obtain ⟨cs, rfl, hsz, ts, hts, _, hcell⟩ := hok
  rw [ct54] at hts
  cases hts
  rw [c54] at hsz
  obtain ⟨fuel, hf⟩ := h
  have hcs : (Value.agg cs).cells.toList = cs.toList := rfl
  rw [hcs] at hf
  obtain ⟨l⟩ := cs
  match l, hsz with
  | [x1, x2, x3, x4, x5], _ =>
    obtain ⟨m1, y1, g1⟩ := trod_field st54 hf (j := 0) rfl
    obtain ⟨m2, y2, g2⟩ := trod_field st54 hf (j := 1) rfl
    obtain ⟨m3, y3, g3⟩ := trod_field st54 hf (j := 2) rfl
    rw [c22] at g1
    rw [c23] at g2
    rw [c42] at g3
    have ok : ∀ (j : Nat) (u : TypeId) (x : Value), ([x1, x2, x3, x4, x5])[j]? = some x → ([22, 23, 42, 3, 3] : List TypeId)[j % 5]? = some u → Cell.okWide Tryz.prog W r b0 u x := by
      intro j u x hx hu'
      obtain ⟨u', e1, e2⟩ := hcell j x (by simpa using hx)
      have : u' = u := Option.some.inj (e1.symm.trans hu')
      subst this
      exact e2
    have oki : ∀ {x : Value}, Cell.okWide Tryz.prog W r b0 3 x → ∃ z : Int, x = .int .i64 z := fun {x} hx => by
      have hv : Value.okWide Tryz.prog W r b0 3 x := by
        unfold Value.okWide
        rw [und3]
        exact hx
      exact okWide_int und3 hv
    obtain ⟨cs1, n1, t1, s1, en1, q1⟩ := open_arg k4 6 und22 cells96 kinds96 h0 (ok 0 22 x1 rfl rfl) g1
    obtain ⟨cs2, n2, t2, s2, en2, q2⟩ := open_arg k2 6 und23 cells93 kinds93 h0 (ok 1 23 x2 rfl rfl) g2
    obtain ⟨cs3, n3, t3, s3, en3, q3⟩ := open_arg k1 6 und42 cells3 kinds3 h0 (ok 2 42 x3 rfl rfl) g3
    obtain ⟨e, rfl⟩ := oki (ok 3 3 x4 rfl rfl)
    obtain ⟨N, rfl⟩ := oki (ok 4 3 x5 rfl rfl)
    exact ⟨x1, x2, x3, cs1, cs2, cs3, n1, n2, n3, t1, s1, t2, s2, t3, s3, en1, en2, en3, e, N, ⟨rfl, q1, q2, q3⟩⟩
theorem rawI_of {W : World} {v : Value} {cs : List Value} {n t s : Nat} {en : En} (h : SliceArg W k1 v cs n t s en) : rawI cs n := by
  refine ⟨h.flat, by rw [h.len]; show n * 1 = n; omega, fun j hj => ?_⟩
  have h1 := h.kinds j hj
  unfold k1 areCells at h1
  rw [Bool.and_eq_true] at h1
  exact h1.1
theorem vr_agg5 {E : Env} {a b c e N : Value} {a' b' c' e' N' : Value} (h1 : VR E a a') (h2 : VR E b b') (h3 : VR E c c') (h4 : VR E e e') (h5 : VR E N N') : VR E (.agg ⟨[a, b, c, e, N]⟩) (.agg #[a', b', c', e', N']) := by
  refine .agg rfl fun i x x' hx hx' => ?_
  match i, hx, hx' with
  | 0, hx, hx' => cases hx; cases hx'; exact h1
  | 1, hx, hx' => cases hx; cases hx'; exact h2
  | 2, hx, hx' => cases hx; cases hx'; exact h3
  | 3, hx, hx' => cases hx; cases hx'; exact h4
  | 4, hx, hx' => cases hx; cases hx'; exact h5
  | k + 5, hx, _ => simp at hx
theorem vrs_one {E : Env} {a a' : Value} (h1 : VR E a a') : VRs E ⟨[a]⟩ #[a'] := by
  refine ⟨rfl, fun i x x' hx hx' => ?_⟩
  match i, hx, hx' with
  | 0, hx, hx' => cases hx; cases hx'; exact h1
  | k + 1, hx, _ => simp at hx
theorem law_calls (haw : Pure Tryz.prog Hd 6 [] (b_ true)) {W : World} {v x1 x2 x3 : Value} {cs ds ls : List Value} {n m k t1 s1 t2 s2 t3 s3 : Nat} {en1 en2 en3 : En} {e N : Int} (h : PowArg W v x1 x2 x3 cs ds ls n m k t1 s1 t2 s2 t3 s3 en1 en2 en3 e N) :
    Calls Tryz.prog 4 #[v] W fun e W' => e = .returned (b_ true) ∧ Below W.heap.size W W' := by
  obtain ⟨rfl, h1, h2, h3⟩ := h
  have hw := WR.startA (W := W) (Hv := Hd) (H := heapL [.dead, .cells cs t1 s1 false, .cells ds t2 s2 false, .cells ls t3 s3 false]) (es := [en1, en2, en3]) (by rw [heapL_len]; rfl) (Laid.of_dead hd_dead W) (fun b hb => by
    rw [heapL_get]
    match b, hb with
    | 0, _ => rfl) (fun j e hj => by
    match j, hj with
    | 0, hj => cases hj; exact ⟨.cells cs t1 s1 false, by rw [heapL_get]; rfl, h1.at_⟩
    | 1, hj => cases hj; exact ⟨.cells ds t2 s2 false, by rw [heapL_get]; rfl, h2.at_⟩
    | 2, hj => cases hj; exact ⟨.cells ls t3 s3 false, by rw [heapL_get]; rfl, h3.at_⟩
    | j + 3, hj => simp at hj)
  have ha : VRs (startE gl ++ [en1, en2, en3]) ⟨[ag [sl 1 0 n n, sl 2 0 m m, sl 3 0 k k, i e, i N]]⟩ #[.agg #[x1, x2, x3, .int .i64 e, .int .i64 N]] :=
    vrs_one (vr_agg5 (h1.vr _ 1 rfl) (h2.vr _ 2 rfl) (h3.vr _ 3 rfl) (VR.of_clean _ 7 _ rfl) (VR.of_clean _ 7 _ rfl))
  obtain ⟨H', hs⟩ := law_true4D haw (t := t1) (s := s1) (t2 := t2) (s2 := s2) (t3 := t3) (s3 := s3) (ex := false) (e2 := false) (e3 := false) (e := e) (N := N) ⟨h1.flat, h1.len, h1.kinds⟩ ⟨h2.flat, h2.len, h2.kinds⟩ (rawI_of h3)
  refine calls_args (H' := H') hw ha rfl ?_
  rw [heapL_len]
  exact hs
theorem glob0 : Tryz.prog.globals.size = 0 := by kernel_rfl
theorem heap_begin : 0 < (begin Tryz.prog (fun _ _ => 0) default).world.heap.size := of_decide_eq_true (by kernel_rfl)
theorem heap0 {W : World} (hs : W.ShapedOpen Tryz.prog) : (W.heap[0]?).isSome = true := by
  obtain ⟨o, _, h, _⟩ := hs.2 0 (by rw [glob0]; exact Nat.le_refl 0) heap_begin
  rw [h]; rfl
set_option maxRecDepth 100000 in
theorem contract (haw : Pure Tryz.prog Hd 6 [] (b_ true)) (H : Type) (enc : TypeId × Value → H) (W : World) (base : Nat) (args : Array Value) (ds gs : List (DataW H)) (before : List MemPlace)
    (hval : ∀ (j : Nat) t v, Tryz.f4.params[j]? = some t → args[j]? = some v → Value.okWide Tryz.prog W .any base t v)
    (hW : DataW.Whole enc Tryz.prog Tryz.f4.params.toList Rows.loadDamagesSpec.vars false W args.toList ds gs before) (hs : W.ShapedOpen Tryz.prog) :
    Calls Tryz.prog 4 args W fun e W' => ∃ v, e = .returned v ∧ Rows.loadDamagesSpec.post enc Tryz.prog Tryz.f4 false true false false W args v W' := by
  have hW' := hW
  obtain ⟨p, q, hA0, hV, rfl, hfz, hnd⟩ := hW
  have hA : DataW.TrodAll enc Tryz.prog W 0 (fun _ => true) true Tryz.f4.params.toList args.toList ds p := hA0
  rw [Tryz.params4] at hA hval
  obtain ⟨v0, d0, rfl, rfl, h0⟩ := trodAll_one hA
  obtain ⟨rfl, rfl⟩ := trodVars_none hV
  clear hA0
  obtain ⟨x1, x2, x3, cs1, cs2, cs3, n1, n2, n3, t1, s1, t2, s2, t3, s3, en1, en2, en3, e, N, hb0⟩ := open_pow (heap0 hs) (hval 0 54 v0 rfl rfl) h0
  have hlt := fun x hx => hW'.lt x hx
  refine (law_calls haw hb0).mono fun e W' ⟨he, hb⟩ => ?_
  subst he
  refine ⟨_, rfl, post_of_below (pa := p) (pv := []) hW' (fun _ _ _ => trodAll_mk1 (shut_bool und4 _)) (fun sp hsp => ?_) (fun _ _ => rfl) (by simp) hb (ok_one (by kernel_rfl) rfl (okWide_bool_mk und4 _))⟩
  rw [Tryz.params4]
  exact trodAll_mk1 (stays laidOut read54 row54 h0 hb (fun x hx => hlt x (by simp [hx])) (fun x hx => hsp x (by simp [hx])))
noncomputable def witWorld (os : Os) : World := World.holding Tryz.prog os ⟨#[], #[], []⟩
def wit : Array Value := #[.agg #[.slice none 0 0, .slice none 0 0, .slice none 0 0, .int .i64 0, .int .i64 0]]
theorem reads (os : Os) {H : Type} (enc : TypeId × Value → H) : ∃ places, DataW.whole enc Tryz.prog ((witWorld os).forCall (fun _ _ => 0) ⟨#[], wit, []⟩).memory Tryz.f4.params.toList Rows.loadDamagesSpec.vars false wit.toList 8 =
    some ([.agg [.nil, .nil, .nil, .lit (.int .i64 0), .lit (.int .i64 0)]], [], places) :=
  ⟨[], by kernel_rfl⟩
theorem laid_none (os : Os) : laidMetH Tryz.prog Rows.loadDamagesRow.laid ((witWorld os).forCall (fun _ _ => 0) ⟨#[], wit, []⟩).memory :=
  laidMet_of_run' 8 (by kernel_rfl) (by kernel_rfl)
set_option maxRecDepth 100000 in
theorem lifted (haw : Pure Tryz.prog Hd 6 [] (b_ true)) (os : Os) (started : os.Started) (H : Type) (enc : TypeId × Value → H) (F : Stop.Interp) :
    ReturnsInHanded {} Tryz.checked os 4 .any ((OpenSpec.ofChange Rows.loadDamagesSpec).preRow enc Tryz.prog Tryz.f4 Rows.loadDamagesRow.domain false Rows.loadDamagesRow.laid) (((OpenSpec.ofChange Rows.loadDamagesSpec).at F).post enc Tryz.prog Tryz.f4 false true false false) := by
  obtain ⟨places, hx⟩ := reads os enc
  refine returnsInHanded_of_row (C := Tryz.checked) (s := OpenSpec.ofChange Rows.loadDamagesSpec) own started (by kernel_rfl) Tryz.func4
    (witness_row_at (enc := enc) (C := Tryz.checked) false (witWorld os) wit rfl (by kernel_rfl) (by kernel_rfl) (by kernel_rfl)
      (OpenSpec.preRow_of_cond 8 hx (by kernel_rfl) (fun k hk => by cases hk) (by kernel_rfl) (laid_none os))) ?_
  intro W base args ds gs before hval hW _ _ _ _ hs _
  exact contract haw H enc W base args ds gs before hval hW hs
end Go.Proofs.YteemponkignnhaaGreat.DamagesL
namespace Go.Proofs.YteemponkignnhaaGreat
open Go Go.Ex Go.RowKit Go.Proofs.YteemponkignnhaaGreat.Ways
theorem damages_of (haw : Pure Tryz.prog Hd 6 [] (b_ true)) : Rows.LoadDamagesSaid :=
  OpenClaim.holds_of_cond 4 Tryz.f4 rfl rfl rfl rfl rfl rfl rfl ⟨rfl, rfl, rfl, rfl, rfl⟩ rfl rfl rfl rfl rfl (by kernel_rfl) Tryz.func4 (by kernel_rfl)
    (of_decide_eq_true (by kernel_rfl)) (by unfold Func.isWrapper; first | (rw [if_pos (by decide +kernel)]; kernel_rfl) | (rw [if_neg (by decide +kernel)]; exact ⟨rfl, rfl⟩))
    (fun os started H enc _ F => by rw [OpenClaim.pre_eq_preRow]; exact DamagesL.lifted haw os started H enc F)
end Go.Proofs.YteemponkignnhaaGreat
noncomputable section
namespace Go.Proofs.YteemponkignnhaaGreat.Ways
open Go Go.Ex Go.RowKit
theorem p6a : Pure Tryz.prog Hd 6 [] (b_ true) := by
  obtain ⟨H', h'⟩ := Out.vals_sel (o := oAw) aw_fix (v := b_ true) (by rw [aw_vals]; rfl)
  exact Pure.of_sound (by decide) hd_len rfl (execO_sound (C := ⟨TQ, no_, off_, noL⟩) tsQ .none 300 _ _ h')
end Go.Proofs.YteemponkignnhaaGreat.Ways
namespace Go.Proofs.YteemponkignnhaaGreat
open Go Go.Ex Go.RowKit
theorem damages_said : Rows.LoadDamagesSaid := damages_of Ways.p6a
end Go.Proofs.YteemponkignnhaaGreat
