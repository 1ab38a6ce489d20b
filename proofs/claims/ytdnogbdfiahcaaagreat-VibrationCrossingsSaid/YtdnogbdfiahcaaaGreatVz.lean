/- For every input nacellelaw04.VibrationCrossings returns true, and each argument reads afterwards as it read before: Crossing gives the index and the error of the reference, for any bands, speeds and greatest stay. Conditions: none. -/
import Derived.Test.YtdnogbdfiahcaaaGreatVr4
import Derived.Test.YtdnogbdfiahcaaaGreatEngCard
import Derived.Test.YtdnogbdfiahcaaaGreatRows
namespace Go.Proofs.YtdnogbdfiahcaaaGreat.Crossings
open Go Go.Ex Go.ChangeShapes Go.WideShapes Go.ChangeAt Go.RowKit Go.Proofs.YtdnogbdfiahcaaaGreat.Ways
theorem own : ownKnob Tryz.prog.godebug = none := by kernel_rfl
theorem laidOut : laidOutB Tryz.prog = true := by kernel_rfl
def k1 : List CK := [.i .i64]
theorem kinds38 : kindsOkB Tryz.prog 6 38 k2 = true := by kernel_rfl
theorem kinds3 : kindsOkB Tryz.prog 6 3 k1 = true := by kernel_rfl
theorem cells38 : Tryz.prog.cellsOf 38 = k2.length := by kernel_rfl
theorem cells3 : Tryz.prog.cellsOf 3 = k1.length := by kernel_rfl
theorem und22 : Tryz.prog.underlying 22 = some (.slice 38) := by kernel_rfl
theorem und23 : Tryz.prog.underlying 23 = some (.slice 3) := by kernel_rfl
theorem und3 : Tryz.prog.underlying 3 = some (.int .i64) := by kernel_rfl
theorem und4 : Tryz.prog.underlying 4 = some .bool := by kernel_rfl
theorem read22 : Tryz.prog.readableRec 22 = true := by kernel_rfl
theorem read23 : Tryz.prog.readableRec 23 = true := by kernel_rfl
theorem read3 : Tryz.prog.readableRec 3 = true := by kernel_rfl
theorem row22 : 22 < Tryz.prog.types.size := of_decide_eq_true (by kernel_rfl)
theorem row23 : 23 < Tryz.prog.types.size := of_decide_eq_true (by kernel_rfl)
theorem row3 : 3 < Tryz.prog.types.size := of_decide_eq_true (by kernel_rfl)
theorem cell_wrap {cs : List Value} {j : Nat} (h : areCells k1 cs (0 + j * 1) = true) : isCellB (.i .i64) cs[0 + j * 1]? = true := by
  unfold k1 areCells at h
  rw [Bool.and_eq_true] at h
  exact h.1
theorem okP_of {W : World} {v : Value} {cs : List Value} {n t s : Nat} {en : En} (h : SliceArg W k2 v cs n t s en) (hn : n ≤ 101) : okP cs n n :=
  ⟨h.flat, Nat.le_refl n, by omega, h.kinds⟩
theorem okI_of {W : World} {v : Value} {cs : List Value} {n t s : Nat} {en : En} (h : SliceArg W k1 v cs n t s en) (hn : n ≤ 1025) : okI cs n n :=
  ⟨h.flat, Nat.le_refl n, by omega, fun j hj => cell_wrap (h.kinds j hj)⟩
theorem vrs_three {E : Env} {a b c a' b' c' : Value} (h1 : VR E a a') (h2 : VR E b b') (h3 : VR E c c') : VRs E ⟨[a, b, c]⟩ #[a', b', c'] := by
  refine ⟨rfl, fun i x x' hx hx' => ?_⟩
  match i, hx, hx' with
  | 0, hx, hx' => cases hx; cases hx'; exact h1
  | 1, hx, hx' => cases hx; cases hx'; exact h2
  | 2, hx, hx' => cases hx; cases hx'; exact h3
  | k + 3, hx, _ => simp at hx
/-- the call returns true -/
theorem law_calls {W : World} {bs ss : List Value} {n m t s t2 s2 : Nat} {en en2 : En} {v v2 : Value} {most : Int} (h : SliceArg W k2 v bs n t s en) (h2 : SliceArg W k1 v2 ss m t2 s2 en2) :
    Calls Tryz.prog 3 #[v, v2, i most] W fun e W' => e = .returned (b_ true) ∧ Below W.heap.size W W' := by
  have hw := WR.startA (W := W) (Hv := Hd) (H := heapL [.dead, .cells bs t s false, .cells ss t2 s2 false]) (es := [en, en2]) (by rw [heapL_len]; rfl) (Laid.of_dead hd_dead W) (fun b hb => by
    rw [heapL_get]
    match b, hb with
    | 0, _ => rfl) (fun j e hj => by
    match j, hj with
    | 0, hj => cases hj; exact ⟨.cells bs t s false, by rw [heapL_get]; rfl, h.at_⟩
    | 1, hj => cases hj; exact ⟨.cells ss t2 s2 false, by rw [heapL_get]; rfl, h2.at_⟩
    | j + 2, hj => simp at hj)
  have ha : VRs (startE gl ++ [en, en2]) ⟨[sl 1 0 n n, sl 2 0 m m, i most]⟩ #[v, v2, i most] := vrs_three (h.vr _ 1 rfl) (h2.vr _ 2 rfl) (VR.of_clean _ 7 _ rfl)
  obtain ⟨H', hs⟩ := law3 (t := t) (s := s) (t2 := t2) (s2 := s2) (ex := false) (e2 := false) (most := most) (okP_of h) (okI_of h2) h.len (by rw [h2.len]; show m * 1 = m; omega)
  refine calls_args (H' := H') hw ha rfl ?_
  rw [heapL_len]
  exact hs
theorem heap_begin : ((begin Tryz.prog (fun _ _ => 0) default).world.heap[0]?.bind Obj.row?).isSome = true := by kernel_rfl
theorem heap0 {W : World} (hs : W.ShapedOpen Tryz.prog) : (W.heap[0]?).isSome = true := by
  obtain ⟨z, hz⟩ := Option.isSome_iff_exists.1 heap_begin
  obtain ⟨cs, h, _⟩ := hs.1 0 z.1 z.2 (of_decide_eq_true (by kernel_rfl)) hz
  rw [h]; rfl
set_option maxRecDepth 100000 in
theorem contract (H : Type) (enc : TypeId × Value → H) (W : World) (base : Nat) (args : Array Value) (ds gs : List (DataW H)) (before : List MemPlace)
    (hval : ∀ (j : Nat) t v, Tryz.f3.params[j]? = some t → args[j]? = some v → Value.okWide Tryz.prog W .any base t v)
    (hW : DataW.Whole enc Tryz.prog Tryz.f3.params.toList Rows.vibrationCrossingsSpec.vars false W args.toList ds gs before) (hs : W.ShapedOpen Tryz.prog) :
    Calls Tryz.prog 3 args W fun e W' => ∃ v, e = .returned v ∧ Rows.vibrationCrossingsSpec.post enc Tryz.prog Tryz.f3 false true false false W args v W' := by
  have hW' := hW
  obtain ⟨p, q, hA0, hV, rfl, hfz, hnd⟩ := hW
  have hA : DataW.TrodAll enc Tryz.prog W 0 (fun _ => true) true Tryz.f3.params.toList args.toList ds p := hA0
  rw [Tryz.params3] at hA hval
  obtain ⟨v0, v1, v2, d0, d1, d2, p0, p1, p2, rfl, rfl, rfl, h0, h1, h2⟩ := trodAll_three hA
  obtain ⟨rfl, rfl⟩ := trodVars_none hV
  clear hA0
  have hok0 := hval 0 22 v0 rfl rfl
  have hok0' : Cell.okWide Tryz.prog W .any base 22 v0 := by
    unfold Value.okWide at hok0
    rw [und22] at hok0
    exact hok0
  have hok1 := hval 1 23 v1 rfl rfl
  have hok1' : Cell.okWide Tryz.prog W .any base 23 v1 := by
    unfold Value.okWide at hok1
    rw [und23] at hok1
    exact hok1
  obtain ⟨f0, hf0⟩ := h0
  obtain ⟨f1, hf1⟩ := h1
  have hone0 : v0.cells.toList = [v0] := by obtain ⟨a, l, c, rfl⟩ := okWide_slice und22 hok0; rfl
  have hone1 : v1.cells.toList = [v1] := by obtain ⟨a, l, c, rfl⟩ := okWide_slice und23 hok1; rfl
  obtain ⟨most, rfl⟩ := okWide_int und3 (hval 2 3 v2 rfl rfl)
  rw [hone0] at hf0
  rw [hone1] at hf1
  obtain ⟨bs, n, tt, ss, en, hsl⟩ := open_arg k2 6 und22 cells38 kinds38 (heap0 hs) hok0' hf0
  obtain ⟨cs, m, tt2, ss2, en2, hsl2⟩ := open_arg k1 6 und23 cells3 kinds3 (heap0 hs) hok1' hf1
  have hlt := fun x hx => hW'.lt x hx
  refine (law_calls (most := most) hsl hsl2).mono fun e W' ⟨he, hb⟩ => ?_
  subst he
  refine ⟨_, rfl, post_of_below (pa := p0 ++ (p1 ++ p2)) (pv := []) hW' (fun _ _ _ => trodAll_mk1 (shut_bool und4 _)) (fun sp hsp => ?_) (fun _ _ => rfl) (by simp) hb (ok_one (by kernel_rfl) rfl (okWide_bool_mk und4 _))⟩
  rw [Tryz.params3]
  exact trodAll_mk3 (stays laidOut read22 row22 ⟨f0, by rw [hone0]; exact hf0⟩ hb (fun x hx => hlt x (by simp [hx])) (fun x hx => hsp x (by simp [hx])))
    (stays laidOut read23 row23 ⟨f1, by rw [hone1]; exact hf1⟩ hb (fun x hx => hlt x (by simp [hx])) (fun x hx => hsp x (by simp [hx])))
    (stays laidOut read3 row3 h2 hb (fun x hx => hlt x (by simp [hx])) (fun x hx => hsp x (by simp [hx])))
/-- A WORLD FOR THE WITNESS: the settled one -/
noncomputable def witWorld (os : Os) : World := World.holding Tryz.prog os ⟨#[], #[], []⟩
def wit : Array Value := #[.slice none 0 0, .slice none 0 0, .int .i64 0]
theorem reads (os : Os) {H : Type} (enc : TypeId × Value → H) : ∃ places, DataW.whole enc Tryz.prog ((witWorld os).forCall (fun _ _ => 0) ⟨#[], wit, []⟩).memory Tryz.f3.params.toList Rows.vibrationCrossingsSpec.vars false wit.toList 8 =
    some ([.nil, .nil, .lit (.int .i64 0)], [], places) :=
  ⟨[], by kernel_rfl⟩
theorem laid_none (os : Os) : laidMetH Tryz.prog Rows.vibrationCrossingsRow.laid ((witWorld os).forCall (fun _ _ => 0) ⟨#[], wit, []⟩).memory :=
  laidMet_of_run' 8 (by kernel_rfl) (by kernel_rfl)
set_option maxRecDepth 100000 in
theorem lifted (os : Os) (started : os.Started) (H : Type) (enc : TypeId × Value → H) (F : Stop.Interp) :
    ReturnsInHanded {} Tryz.checked os 3 .any ((OpenSpec.ofChange Rows.vibrationCrossingsSpec).preRow enc Tryz.prog Tryz.f3 Rows.vibrationCrossingsRow.domain false Rows.vibrationCrossingsRow.laid) (((OpenSpec.ofChange Rows.vibrationCrossingsSpec).at F).post enc Tryz.prog Tryz.f3 false true false false) := by
  obtain ⟨places, hx⟩ := reads os enc
  refine returnsInHanded_of_row (C := Tryz.checked) (s := OpenSpec.ofChange Rows.vibrationCrossingsSpec) own started (by kernel_rfl) Tryz.func3
    (witness_row_at (enc := enc) (C := Tryz.checked) false (witWorld os) wit rfl (by kernel_rfl) (by kernel_rfl) (by kernel_rfl)
      (OpenSpec.preRow_of_cond 8 hx (by kernel_rfl) (fun k hk => by cases hk) (by kernel_rfl) (laid_none os))) ?_
  intro W base args ds gs before hval hW _ _ _ _ hs _
  exact contract H enc W base args ds gs before hval hW hs
end Go.Proofs.YtdnogbdfiahcaaaGreat.Crossings
namespace Go.Proofs.YtdnogbdfiahcaaaGreat
open Go Go.Ex Go.RowKit
/-- the statement -/
theorem crossings_said : Rows.VibrationCrossingsSaid :=
  OpenClaim.holds_of_cond 3 Tryz.f3 rfl rfl rfl rfl rfl rfl rfl ⟨rfl, rfl, rfl, rfl, rfl⟩ rfl rfl rfl rfl rfl (by kernel_rfl) Tryz.func3 (by kernel_rfl)
    (of_decide_eq_true (by kernel_rfl)) (by unfold Func.isWrapper; first | (rw [if_pos (by decide +kernel)]; kernel_rfl) | (rw [if_neg (by decide +kernel)]; exact ⟨rfl, rfl⟩))
    (fun os started H enc _ F => by rw [OpenClaim.pre_eq_preRow]; exact Crossings.lifted os started H enc F)
end Go.Proofs.YtdnogbdfiahcaaaGreat
