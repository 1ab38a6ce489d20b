/- For every input nacellelaw07.LoadSpent returns true, and each argument reads afterwards as it read before: a life bears as many of some equal records as it bears repeats, with what is left; a greater capacity bears no fewer; and the equivalent range does at most the damage, and with 1 more it would do more. Conditions: none. -/
import Derived.Test.YteemponkignnhaaSh1
import Derived.Test.YteemponkignnhaaEngArg
import Derived.Test.YteemponkignnhaaRows
import Derived.Test.YteemponkignnhaaLr6
namespace Go.Proofs.Yteemponkignnhaa.SpentL
open Go Go.Ex Go.ChangeShapes Go.WideShapes Go.ChangeAt Go.RowKit Go.Proofs.Yteemponkignnhaa.Ways
theorem vrs_three {E : Env} {a b c a' b' c' : Value} (h1 : VR E a a') (h2 : VR E b b') (h3 : VR E c c') : VRs E ⟨[a, b, c]⟩ #[a', b', c'] := by
  refine ⟨rfl, fun i x x' hx hx' => ?_⟩
  match i, hx, hx' with
  | 0, hx, hx' => cases hx; cases hx'; exact h1
  | 1, hx, hx' => cases hx; cases hx'; exact h2
  | 2, hx, hx' => cases hx; cases hx'; exact h3
  | k + 3, hx, _ => simp at hx
theorem own : ownKnob Try.prog.godebug = none := by kernel_rfl
theorem laidOut : laidOutB Try.prog = true := by kernel_rfl
def k1 : List CK := [.i .i64]
theorem kinds3 : kindsOkB Try.prog 6 3 k1 = true := by kernel_rfl
theorem cells3 : Try.prog.cellsOf 3 = k1.length := by kernel_rfl
theorem und22 : Try.prog.underlying 22 = some (.slice 3) := by kernel_rfl
theorem read22 : Try.prog.readableRec 22 = true := by kernel_rfl
theorem row22 : 22 < Try.prog.types.size := of_decide_eq_true (by kernel_rfl)
theorem kinds89 : kindsOkB Try.prog 6 89 k2 = true := by kernel_rfl
theorem agg89 : aggB Try.prog 89 = some true := by kernel_rfl
theorem cells89 : Try.prog.cellsOf 89 = k2.length := by kernel_rfl
theorem read89 : Try.prog.readableRec 89 = true := by kernel_rfl
theorem row89 : 89 < Try.prog.types.size := of_decide_eq_true (by kernel_rfl)
theorem und5 : Try.prog.underlying 5 = some (.int .u8) := by kernel_rfl
theorem read5 : Try.prog.readableRec 5 = true := by kernel_rfl
theorem row5 : 5 < Try.prog.types.size := of_decide_eq_true (by kernel_rfl)
theorem und4 : Try.prog.underlying 4 = some .bool := by kernel_rfl
theorem rawI_of {W : World} {v : Value} {cs : List Value} {n t s : Nat} {en : En} (h : SliceArg W k1 v cs n t s en) : rawI cs n := by
  refine ⟨h.flat, by rw [h.len]; show n * 1 = n; omega, fun j hj => ?_⟩
  have h1 := h.kinds j hj
  unfold k1 areCells at h1
  rw [Bool.and_eq_true] at h1
  exact h1.1
theorem okWide_u8 {P : Program} {w : World} {r : Reach} {base : Nat} {t : TypeId} {v : Value} (ht : P.underlying t = some (.int .u8)) (h : Value.okWide P w r base t v) : ∃ n, v = .int .u8 n ∧ (0 ≤ n ∧ n ≤ 255) := by
  obtain ⟨n, rfl⟩ := okWide_int ht h
  refine ⟨n, rfl, ?_⟩
  simp [Value.okWide, ht, Cell.okWide, Cell.ok, IntKind.has] at h
  have m1 : IntKind.min .u8 = 0 := by decide
  have m2 : IntKind.max .u8 = 255 := by decide
  rw [m1, m2] at h
  exact h
theorem law_calls (haw : Pure Try.prog Hd 11 [] (b_ true)) {W : World} {cs0 : List Value} {n0 t0 s0 : Nat} {en0 : En} {v0 : Value} {a e : Int} {x2 : Int} (hx2 : 0 ≤ x2 ∧ x2 ≤ 255) (h0 : SliceArg W k1 v0 cs0 n0 t0 s0 en0) :
    Calls Try.prog 10 #[v0, ag [i a, i e], .int .u8 x2] W fun e W' => e = .returned (b_ true) ∧ Below W.heap.size W W' := by
  have hw := WR.startA (W := W) (Hv := Hd) (H := heapL [.dead, .cells cs0 t0 s0 false]) (es := [en0]) (by rw [heapL_len]; rfl) (Laid.of_dead hd_dead W) (fun b hb => by
    rw [heapL_get]
    match b, hb with
    | 0, _ => rfl) (fun j e hj => by
    match j, hj with
    | 0, hj => cases hj; exact ⟨.cells cs0 t0 s0 false, by rw [heapL_get]; rfl, h0.at_⟩
    | j + 1, hj => simp at hj)
  have ha : VRs (startE gl ++ [en0]) ⟨[sl 1 0 n0 n0, ag [i a, i e], .int .u8 x2]⟩ #[v0, ag [i a, i e], .int .u8 x2] := vrs_three (h0.vr _ 1 rfl) (VR.of_clean _ 7 _ rfl) (VR.of_clean _ 7 _ rfl)
  obtain ⟨H', hs⟩ := law_true10 haw (t := t0) (s := s0) (ex := false) (a := a) (e := e) (x := x2) (rawI_of h0) hx2
  refine calls_args (H' := H') hw ha rfl ?_
  rw [heapL_len]
  exact hs
theorem glob0 : Try.prog.globals.size = 0 := by kernel_rfl
theorem heap_begin : 0 < (begin Try.prog (fun _ _ => 0) default).world.heap.size := of_decide_eq_true (by kernel_rfl)
theorem heap0 {W : World} (hs : W.ShapedOpen Try.prog) : (W.heap[0]?).isSome = true := by
  obtain ⟨o, _, h, _⟩ := hs.2 0 (by rw [glob0]; exact Nat.le_refl 0) heap_begin
  rw [h]; rfl
set_option maxRecDepth 100000 in
theorem contract (haw : Pure Try.prog Hd 11 [] (b_ true)) (H : Type) (enc : TypeId × Value → H) (W : World) (base : Nat) (args : Array Value) (ds gs : List (DataW H)) (before : List MemPlace)
    (hval : ∀ (j : Nat) t v, Try.f10.params[j]? = some t → args[j]? = some v → Value.okWide Try.prog W .any base t v)
    (hW : DataW.Whole enc Try.prog Try.f10.params.toList Rows.loadSpentSpec.vars false W args.toList ds gs before) (hs : W.ShapedOpen Try.prog) :
    Calls Try.prog 10 args W fun e W' => ∃ v, e = .returned v ∧ Rows.loadSpentSpec.post enc Try.prog Try.f10 false true false false W args v W' := by
  have hW' := hW
  obtain ⟨p, q, hA0, hV, rfl, hfz, hnd⟩ := hW
  have hA : DataW.TrodAll enc Try.prog W 0 (fun _ => true) true Try.f10.params.toList args.toList ds p := hA0
  rw [Try.params10] at hA hval
  obtain ⟨v0, v1, v2, d0, d1, d2, p0, p1, p2, rfl, rfl, rfl, h0, h1, h2⟩ := trodAll_three hA
  obtain ⟨rfl, rfl⟩ := trodVars_none hV
  clear hA0
  have hok0 := hval 0 22 v0 rfl rfl
  have hok0' : Cell.okWide Try.prog W .any base 22 v0 := by
    unfold Value.okWide at hok0
    rw [und22] at hok0
    exact hok0
  obtain ⟨f0, hf0⟩ := h0
  have hone0 : v0.cells.toList = [v0] := by obtain ⟨a, l, c, rfl⟩ := okWide_slice und22 hok0; rfl
  rw [hone0] at hf0
  obtain ⟨xs0, n0, tt0, ss0, en0, hsl0⟩ := open_arg k1 6 und22 cells3 kinds3 (heap0 hs) hok0' hf0
  obtain ⟨c1, hv1, hl1, hb1⟩ := open_flat k2 6 agg89 cells89 kinds89 (hval 1 89 v1 rfl rfl) h1
  obtain ⟨e2, hv2, hb2⟩ := okWide_u8 und5 (hval 2 5 v2 rfl rfl)
  have hlt := fun x hx => hW'.lt x hx
  subst hv1
  subst hv2
  refine (law_calls (a := intO c1[0]?) (e := intO c1[0 + 1]?) haw hb2 hsl0).mono fun e W' ⟨he, hb⟩ => ?_
  subst he
  refine ⟨_, rfl, post_of_below (pa := p0 ++ (p1 ++ p2)) (pv := []) hW' (fun _ _ _ => trodAll_mk1 (shut_bool und4 _)) (fun sp hsp => ?_) (fun _ _ => rfl) (by simp) hb (ok_one (by kernel_rfl) rfl (okWide_bool_mk und4 _))⟩
  rw [Try.params10]
  exact trodAll_mk3
    (stays laidOut read22 row22 ⟨f0, by rw [hone0]; exact hf0⟩ hb (fun x hx => hlt x (by simp [hx])) (fun x hx => hsp x (by simp [hx])))
    (stays laidOut read89 row89 h1 hb (fun x hx => hlt x (by simp [hx])) (fun x hx => hsp x (by simp [hx])))
    (stays laidOut read5 row5 h2 hb (fun x hx => hlt x (by simp [hx])) (fun x hx => hsp x (by simp [hx])))
noncomputable def witWorld (os : Os) : World := World.holding Try.prog os ⟨#[], #[], []⟩
def wit : Array Value := #[.slice none 0 0, .agg #[.int .i64 0, .int .i64 0], .int .u8 0]
theorem reads (os : Os) {H : Type} (enc : TypeId × Value → H) : ∃ places, DataW.whole enc Try.prog ((witWorld os).forCall (fun _ _ => 0) ⟨#[], wit, []⟩).memory Try.f10.params.toList Rows.loadSpentSpec.vars false wit.toList 8 =
    some ([.nil, .agg [.lit (.int .i64 0), .lit (.int .i64 0)], .lit (.int .u8 0)], [], places) :=
  ⟨[], by kernel_rfl⟩
theorem laid_none (os : Os) : laidMetH Try.prog Rows.loadSpentRow.laid ((witWorld os).forCall (fun _ _ => 0) ⟨#[], wit, []⟩).memory :=
  laidMet_of_run' 8 (by kernel_rfl) (by kernel_rfl)
set_option maxRecDepth 100000 in
theorem lifted (haw : Pure Try.prog Hd 11 [] (b_ true)) (os : Os) (started : os.Started) (H : Type) (enc : TypeId × Value → H) (F : Stop.Interp) :
    ReturnsInHanded {} Try.checked os 10 .any ((OpenSpec.ofChange Rows.loadSpentSpec).preRow enc Try.prog Try.f10 Rows.loadSpentRow.domain false Rows.loadSpentRow.laid) (((OpenSpec.ofChange Rows.loadSpentSpec).at F).post enc Try.prog Try.f10 false true false false) := by
  obtain ⟨places, hx⟩ := reads os enc
  refine returnsInHanded_of_row (C := Try.checked) (s := OpenSpec.ofChange Rows.loadSpentSpec) own started (by kernel_rfl) Try.func10
    (witness_row_at (enc := enc) (C := Try.checked) false (witWorld os) wit rfl (by kernel_rfl) (by kernel_rfl) (by kernel_rfl)
      (OpenSpec.preRow_of_cond 8 hx (by kernel_rfl) (fun k hk => by cases hk) (by kernel_rfl) (laid_none os))) ?_
  intro W base args ds gs before hval hW _ _ _ _ hs _
  exact contract haw H enc W base args ds gs before hval hW hs
end Go.Proofs.Yteemponkignnhaa.SpentL
namespace Go.Proofs.Yteemponkignnhaa
open Go Go.Ex Go.RowKit Go.Proofs.Yteemponkignnhaa.Ways
theorem spent_of (haw : Pure Try.prog Hd 11 [] (b_ true)) : Rows.LoadSpentSaid :=
  OpenClaim.holds_of_cond 10 Try.f10 rfl rfl rfl rfl rfl rfl rfl ⟨rfl, rfl, rfl, rfl, rfl⟩ rfl rfl rfl rfl rfl (by kernel_rfl) Try.func10 (by kernel_rfl)
    (of_decide_eq_true (by kernel_rfl)) (by unfold Func.isWrapper; first | (rw [if_pos (by decide +kernel)]; kernel_rfl) | (rw [if_neg (by decide +kernel)]; exact ⟨rfl, rfl⟩))
    (fun os started H enc _ F => by rw [OpenClaim.pre_eq_preRow]; exact SpentL.lifted haw os started H enc F)
end Go.Proofs.Yteemponkignnhaa
noncomputable section
namespace Go.Proofs.Yteemponkignnhaa.Ways
open Go Go.Ex Go.RowKit
theorem p11a : Pure Try.prog Hd 11 [] (b_ true) := by
  obtain ⟨H', h'⟩ := Out.vals_sel (o := oAw) aw_fix (v := b_ true) (by rw [aw_vals]; rfl)
  exact Pure.of_sound (by decide) hd_len rfl (execO_sound (C := ⟨TQ, no_, off_, noL⟩) tsQ .none 300 _ _ h')
end Go.Proofs.Yteemponkignnhaa.Ways
namespace Go.Proofs.Yteemponkignnhaa
open Go Go.Ex Go.RowKit
theorem spent_said : Rows.LoadSpentSaid := spent_of Ways.p11a
end Go.Proofs.Yteemponkignnhaa
