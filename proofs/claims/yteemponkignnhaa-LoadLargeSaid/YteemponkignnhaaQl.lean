/- For every input nacellelaw07.LoadLarge returns true, and each argument reads afterwards as it read before: a record that is filtered by a least range keeps the cycles of at least this range, and its residue, by their loads; it is not filtered further; and by a greater range it is a part of it. Conditions: none. -/
import Derived.Test.YteemponkignnhaaQ1
import Derived.Test.YteemponkignnhaaEngArg
import Derived.Test.YteemponkignnhaaRows
import Derived.Test.YteemponkignnhaaLr6
namespace Go.Proofs.Yteemponkignnhaa.LargeL
open Go Go.Ex Go.ChangeShapes Go.WideShapes Go.ChangeAt Go.RowKit Go.Proofs.Yteemponkignnhaa.Ways
theorem vrs_two {E : Env} {a b a' b' : Value} (h1 : VR E a a') (h2 : VR E b b') : VRs E ⟨[a, b]⟩ #[a', b'] := by
  refine ⟨rfl, fun i x x' hx hx' => ?_⟩
  match i, hx, hx' with
  | 0, hx, hx' => cases hx; cases hx'; exact h1
  | 1, hx, hx' => cases hx; cases hx'; exact h2
  | k + 2, hx, _ => simp at hx
theorem own : ownKnob Try.prog.godebug = none := by kernel_rfl
theorem laidOut : laidOutB Try.prog = true := by kernel_rfl
def k1 : List CK := [.i .i64]
def k16 : List CK := [.i .u16, .i .u16]
theorem kinds3 : kindsOkB Try.prog 6 3 k1 = true := by kernel_rfl
theorem cells3 : Try.prog.cellsOf 3 = k1.length := by kernel_rfl
theorem und22 : Try.prog.underlying 22 = some (.slice 3) := by kernel_rfl
theorem read22 : Try.prog.readableRec 22 = true := by kernel_rfl
theorem row22 : 22 < Try.prog.types.size := of_decide_eq_true (by kernel_rfl)
theorem kinds76 : kindsOkB Try.prog 6 76 k16 = true := by kernel_rfl
theorem agg76 : aggB Try.prog 76 = some true := by kernel_rfl
theorem cells76 : Try.prog.cellsOf 76 = k16.length := by kernel_rfl
theorem read76 : Try.prog.readableRec 76 = true := by kernel_rfl
theorem row76 : 76 < Try.prog.types.size := of_decide_eq_true (by kernel_rfl)
theorem und4 : Try.prog.underlying 4 = some .bool := by kernel_rfl
theorem rawI_of {W : World} {v : Value} {cs : List Value} {n t s : Nat} {en : En} (h : SliceArg W k1 v cs n t s en) : rawI cs n := by
  refine ⟨h.flat, by rw [h.len]; show n * 1 = n; omega, fun j hj => ?_⟩
  have h1 := h.kinds j hj
  unfold k1 areCells at h1
  rw [Bool.and_eq_true] at h1
  exact h1.1
theorem u16_bd {v : Option Value} (h : isCellB (.i .u16) v = true) (hw : wfCell v) : 0 ≤ intO v ∧ intO v ≤ 65535 := by
  have e := cellAt_eq h
  have hc : ∃ n : Int, v = some (.int .u16 n) := ⟨intO v, e⟩
  obtain ⟨n, rfl⟩ := hc
  have := hw .u16 n rfl
  have h2 : (decide (IntKind.min .u16 ≤ n) && decide (n ≤ IntKind.max .u16)) = true := this
  rw [Bool.and_eq_true, decide_eq_true_eq, decide_eq_true_eq] at h2
  have m1 : IntKind.min .u16 = 0 := by decide
  have m2 : IntKind.max .u16 = 65535 := by decide
  rw [m1, m2] at h2
  exact h2
theorem two_of {cs : List Value} (h : areCells k16 cs 0 = true) : isCellB (.i .u16) cs[0]? = true ∧ isCellB (.i .u16) cs[0 + 1]? = true := by
  unfold k16 areCells areCells at h
  rw [Bool.and_eq_true, Bool.and_eq_true] at h
  exact ⟨h.1, h.2.1⟩
theorem law_calls (haw : Pure Try.prog Hd 11 [] (b_ true)) {W : World} {cs0 : List Value} {n0 t0 s0 : Nat} {en0 : En} {v0 : Value} {a e : Int} (hq1 : 0 ≤ a ∧ a ≤ 65535) (hq2 : 0 ≤ e ∧ e ≤ 65535) (h0 : SliceArg W k1 v0 cs0 n0 t0 s0 en0) :
    Calls Try.prog 7 #[v0, ag [.int .u16 a, .int .u16 e]] W fun e W' => e = .returned (b_ true) ∧ Below W.heap.size W W' := by
  have hw := WR.startA (W := W) (Hv := Hd) (H := heapL [.dead, .cells cs0 t0 s0 false]) (es := [en0]) (by rw [heapL_len]; rfl) (Laid.of_dead hd_dead W) (fun b hb => by
    rw [heapL_get]
    match b, hb with
    | 0, _ => rfl) (fun j e hj => by
    match j, hj with
    | 0, hj => cases hj; exact ⟨.cells cs0 t0 s0 false, by rw [heapL_get]; rfl, h0.at_⟩
    | j + 1, hj => simp at hj)
  have ha : VRs (startE gl ++ [en0]) ⟨[sl 1 0 n0 n0, ag [.int .u16 a, .int .u16 e]]⟩ #[v0, ag [.int .u16 a, .int .u16 e]] := vrs_two (h0.vr _ 1 rfl) (VR.of_clean _ 7 _ rfl)
  obtain ⟨H', hs⟩ := law_true7L haw (t := t0) (s := s0) (ex := false) (x := a) (y := e) (rawI_of h0) hq1 hq2
  refine calls_args (H' := H') hw ha rfl ?_
  rw [heapL_len]
  exact hs
theorem glob0 : Try.prog.globals.size = 0 := by kernel_rfl
theorem heap_begin : 0 < (begin Try.prog (fun _ _ => 0) default).world.heap.size := of_decide_eq_true (by kernel_rfl)
theorem heap0 {W : World} (hs : W.ShapedOpen Try.prog) : (W.heap[0]?).isSome = true := by
  obtain ⟨o, _, h, _⟩ := hs.2 0 (by rw [glob0]; exact Nat.le_refl 0) heap_begin
  rw [h]; rfl
set_option maxRecDepth 100000 in
theorem contract (haw : Pure Try.prog Hd 11 [] (b_ true)) (H : Type) (enc : TypeId × Value → H) (W : World) (base : Nat) (args : Array Value) (ds gs : List (DataW H)) (before : List MemPlace)
    (hval : ∀ (j : Nat) t v, Try.f7.params[j]? = some t → args[j]? = some v → Value.okWide Try.prog W .any base t v)
    (hW : DataW.Whole enc Try.prog Try.f7.params.toList Rows.loadLargeSpec.vars false W args.toList ds gs before) (hs : W.ShapedOpen Try.prog) :
    Calls Try.prog 7 args W fun e W' => ∃ v, e = .returned v ∧ Rows.loadLargeSpec.post enc Try.prog Try.f7 false true false false W args v W' := by
  have hW' := hW
  obtain ⟨p, q, hA0, hV, rfl, hfz, hnd⟩ := hW
  have hA : DataW.TrodAll enc Try.prog W 0 (fun _ => true) true Try.f7.params.toList args.toList ds p := hA0
  rw [Try.params7] at hA hval
  obtain ⟨v0, v1, d0, d1, p0, p1, rfl, rfl, rfl, h0, h1⟩ := trodAll_two hA
  obtain ⟨rfl, rfl⟩ := trodVars_none hV
  clear hA0
  have hok0 := hval 0 22 v0 rfl rfl
  have hok0' : Cell.okWide Try.prog W .any base 22 v0 := by
    unfold Value.okWide at hok0
    rw [und22] at hok0
    exact hok0
  obtain ⟨f0, hf0⟩ := h0
  have hone0 : v0.cells.toList = [v0] := by obtain ⟨a, l, c, rfl⟩ := okWide_slice und22 hok0; rfl
  rw [hone0] at hf0
  obtain ⟨xs0, n0, tt0, ss0, en0, hsl0⟩ := open_arg k1 6 und22 cells3 kinds3 (heap0 hs) hok0' hf0
  obtain ⟨c1, hv1, hl1, hb1⟩ := open_flat k16 6 agg76 cells76 kinds76 (hval 1 76 v1 rfl rfl) h1
  have hlt := fun x hx => hW'.lt x hx
  subst hv1
  refine (law_calls (a := intO c1[0]?) (e := intO c1[0 + 1]?) haw (u16_bd (two_of hl1).1 (hb1 _)) (u16_bd (two_of hl1).2 (hb1 _)) hsl0).mono fun e W' ⟨he, hb⟩ => ?_
  subst he
  refine ⟨_, rfl, post_of_below (pa := p0 ++ p1) (pv := []) hW' (fun _ _ _ => trodAll_mk1 (shut_bool und4 _)) (fun sp hsp => ?_) (fun _ _ => rfl) (by simp) hb (ok_one (by kernel_rfl) rfl (okWide_bool_mk und4 _))⟩
  rw [Try.params7]
  exact trodAll_mk2
    (stays laidOut read22 row22 ⟨f0, by rw [hone0]; exact hf0⟩ hb (fun x hx => hlt x (by simp [hx])) (fun x hx => hsp x (by simp [hx])))
    (stays laidOut read76 row76 h1 hb (fun x hx => hlt x (by simp [hx])) (fun x hx => hsp x (by simp [hx])))
noncomputable def witWorld (os : Os) : World := World.holding Try.prog os ⟨#[], #[], []⟩
def wit : Array Value := #[.slice none 0 0, .agg #[.int .u16 0, .int .u16 0]]
theorem reads (os : Os) {H : Type} (enc : TypeId × Value → H) : ∃ places, DataW.whole enc Try.prog ((witWorld os).forCall (fun _ _ => 0) ⟨#[], wit, []⟩).memory Try.f7.params.toList Rows.loadLargeSpec.vars false wit.toList 8 =
    some ([.nil, .agg [.lit (.int .u16 0), .lit (.int .u16 0)]], [], places) :=
  ⟨[], by kernel_rfl⟩
theorem laid_none (os : Os) : laidMetH Try.prog Rows.loadLargeRow.laid ((witWorld os).forCall (fun _ _ => 0) ⟨#[], wit, []⟩).memory :=
  laidMet_of_run' 8 (by kernel_rfl) (by kernel_rfl)
set_option maxRecDepth 100000 in
theorem lifted (haw : Pure Try.prog Hd 11 [] (b_ true)) (os : Os) (started : os.Started) (H : Type) (enc : TypeId × Value → H) (F : Stop.Interp) :
    ReturnsInHanded {} Try.checked os 7 .any ((OpenSpec.ofChange Rows.loadLargeSpec).preRow enc Try.prog Try.f7 Rows.loadLargeRow.domain false Rows.loadLargeRow.laid) (((OpenSpec.ofChange Rows.loadLargeSpec).at F).post enc Try.prog Try.f7 false true false false) := by
  obtain ⟨places, hx⟩ := reads os enc
  refine returnsInHanded_of_row (C := Try.checked) (s := OpenSpec.ofChange Rows.loadLargeSpec) own started (by kernel_rfl) Try.func7
    (witness_row_at (enc := enc) (C := Try.checked) false (witWorld os) wit rfl (by kernel_rfl) (by kernel_rfl) (by kernel_rfl)
      (OpenSpec.preRow_of_cond 8 hx (by kernel_rfl) (fun k hk => by cases hk) (by kernel_rfl) (laid_none os))) ?_
  intro W base args ds gs before hval hW _ _ _ _ hs _
  exact contract haw H enc W base args ds gs before hval hW hs
end Go.Proofs.Yteemponkignnhaa.LargeL
namespace Go.Proofs.Yteemponkignnhaa
open Go Go.Ex Go.RowKit Go.Proofs.Yteemponkignnhaa.Ways
theorem large_of (haw : Pure Try.prog Hd 11 [] (b_ true)) : Rows.LoadLargeSaid :=
  OpenClaim.holds_of_cond 7 Try.f7 rfl rfl rfl rfl rfl rfl rfl ⟨rfl, rfl, rfl, rfl, rfl⟩ rfl rfl rfl rfl rfl (by kernel_rfl) Try.func7 (by kernel_rfl)
    (of_decide_eq_true (by kernel_rfl)) (by unfold Func.isWrapper; first | (rw [if_pos (by decide +kernel)]; kernel_rfl) | (rw [if_neg (by decide +kernel)]; exact ⟨rfl, rfl⟩))
    (fun os started H enc _ F => by rw [OpenClaim.pre_eq_preRow]; exact LargeL.lifted haw os started H enc F)
end Go.Proofs.Yteemponkignnhaa
noncomputable section
namespace Go.Proofs.Yteemponkignnhaa.Ways
open Go Go.Ex Go.RowKit
theorem p11b : Pure Try.prog Hd 11 [] (b_ true) := by
  obtain ⟨H', h'⟩ := Out.vals_sel (o := oAw) aw_fix (v := b_ true) (by rw [aw_vals]; rfl)
  exact Pure.of_sound (by decide) hd_len rfl (execO_sound (C := ⟨TQ, no_, off_, noL⟩) tsQ .none 300 _ _ h')
end Go.Proofs.Yteemponkignnhaa.Ways
namespace Go.Proofs.Yteemponkignnhaa
open Go Go.Ex Go.RowKit
theorem large_said : Rows.LoadLargeSaid := large_of Ways.p11b
end Go.Proofs.Yteemponkignnhaa
