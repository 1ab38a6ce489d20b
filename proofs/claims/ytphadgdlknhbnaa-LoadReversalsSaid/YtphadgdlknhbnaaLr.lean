/- For every input nacellelaw07.LoadReversals returns true, and each argument reads afterwards as it read before: CheckLoads, Reversals and CheckReversals give the results or the errors of the reference, for any list of integers and any list of reversals. Conditions: none. -/
import Derived.Test.YtphadgdlknhbnaaLo
import Derived.Test.YtphadgdlknhbnaaEngArg
import Derived.Test.YtphadgdlknhbnaaRows
import Derived.Test.YtphadgdlknhbnaaLr6
namespace Go.Proofs.Ytphadgdlknhbnaa.Reversals
open Go Go.Ex Go.ChangeShapes Go.WideShapes Go.ChangeAt Go.RowKit Go.Proofs.Ytphadgdlknhbnaa.Ways
theorem own : ownKnob Try.prog.godebug = none := by kernel_rfl
theorem laidOut : laidOutB Try.prog = true := by kernel_rfl
def k1 : List CK := [.i .i64]
theorem kinds70 : kindsOkB Try.prog 6 70 k2 = true := by kernel_rfl
theorem kinds3 : kindsOkB Try.prog 6 3 k1 = true := by kernel_rfl
theorem cells70 : Try.prog.cellsOf 70 = k2.length := by kernel_rfl
theorem cells3 : Try.prog.cellsOf 3 = k1.length := by kernel_rfl
theorem und22 : Try.prog.underlying 22 = some (.slice 3) := by kernel_rfl
theorem und23 : Try.prog.underlying 23 = some (.slice 70) := by kernel_rfl
theorem und4 : Try.prog.underlying 4 = some .bool := by kernel_rfl
theorem read22 : Try.prog.readableRec 22 = true := by kernel_rfl
theorem read23 : Try.prog.readableRec 23 = true := by kernel_rfl
theorem row22 : 22 < Try.prog.types.size := of_decide_eq_true (by kernel_rfl)
theorem row23 : 23 < Try.prog.types.size := of_decide_eq_true (by kernel_rfl)
theorem rawI_of {W : World} {v : Value} {cs : List Value} {n t s : Nat} {en : En} (h : SliceArg W k1 v cs n t s en) : rawI cs n := by
  refine ⟨h.flat, by rw [h.len]; show n * 1 = n; omega, fun j hj => ?_⟩
  have h1 := h.kinds j hj
  unfold k1 areCells at h1
  rw [Bool.and_eq_true] at h1
  exact h1.1
theorem rawP_of {W : World} {v : Value} {cs : List Value} {n t s : Nat} {en : En} (h : SliceArg W k2 v cs n t s en) : rawP cs n := ⟨h.flat, h.len, h.kinds⟩
theorem law_calls (haw : Pure Try.prog Hd 9 [] (b_ true)) {W : World} {cs rs : List Value} {n m t s t2 s2 : Nat} {en en2 : En} {v v2 : Value} (h : SliceArg W k1 v cs n t s en) (h2 : SliceArg W k2 v2 rs m t2 s2 en2) :
    Calls Try.prog 3 #[v, v2] W fun e W' => e = .returned (b_ true) ∧ Below W.heap.size W W' := by
  have hw := WR.startA (W := W) (Hv := Hd) (H := heapL [.dead, .cells cs t s false, .cells rs t2 s2 false]) (es := [en, en2]) (by rw [heapL_len]; rfl) (Laid.of_dead hd_dead W) (fun b hb => by
    rw [heapL_get]
    match b, hb with
    | 0, _ => rfl) (fun j e hj => by
    match j, hj with
    | 0, hj => cases hj; exact ⟨.cells cs t s false, by rw [heapL_get]; rfl, h.at_⟩
    | 1, hj => cases hj; exact ⟨.cells rs t2 s2 false, by rw [heapL_get]; rfl, h2.at_⟩
    | j + 2, hj => simp at hj)
  have ha : VRs (startE gl ++ [en, en2]) ⟨[sl 1 0 n n, sl 2 0 m m]⟩ #[v, v2] := vrs_two (h.vr _ 1 rfl) (h2.vr _ 2 rfl)
  obtain ⟨H', hs⟩ := law_true haw (t := t) (s := s) (t2 := t2) (s2 := s2) (ex := false) (e2 := false) (rawI_of h) (rawP_of h2)
  refine calls_args (H' := H') hw ha rfl ?_
  rw [heapL_len]
  exact hs
theorem glob0 : Try.prog.globals.size = 0 := by kernel_rfl
theorem heap_begin : 0 < (begin Try.prog (fun _ _ => 0) default).world.heap.size := of_decide_eq_true (by kernel_rfl)
theorem heap0 {W : World} (hs : W.ShapedOpen Try.prog) : (W.heap[0]?).isSome = true := by
  obtain ⟨o, _, h, _⟩ := hs.2 0 (by rw [glob0]; exact Nat.le_refl 0) heap_begin
  rw [h]; rfl
set_option maxRecDepth 100000 in
theorem contract (haw : Pure Try.prog Hd 9 [] (b_ true)) (H : Type) (enc : TypeId × Value → H) (W : World) (base : Nat) (args : Array Value) (ds gs : List (DataW H)) (before : List MemPlace)
    (hval : ∀ (j : Nat) t v, Try.f3.params[j]? = some t → args[j]? = some v → Value.okWide Try.prog W .any base t v)
    (hW : DataW.Whole enc Try.prog Try.f3.params.toList Rows.loadReversalsSpec.vars false W args.toList ds gs before) (hs : W.ShapedOpen Try.prog) :
    Calls Try.prog 3 args W fun e W' => ∃ v, e = .returned v ∧ Rows.loadReversalsSpec.post enc Try.prog Try.f3 false true false false W args v W' := by
  have hW' := hW
  obtain ⟨p, q, hA0, hV, rfl, hfz, hnd⟩ := hW
  have hA : DataW.TrodAll enc Try.prog W 0 (fun _ => true) true Try.f3.params.toList args.toList ds p := hA0
  rw [Try.params3] at hA hval
  obtain ⟨v0, v1, d0, d1, p0, p1, rfl, rfl, rfl, h0, h1⟩ := trodAll_two hA
  obtain ⟨rfl, rfl⟩ := trodVars_none hV
  clear hA0
  have hok0 := hval 0 22 v0 rfl rfl
  have hok0' : Cell.okWide Try.prog W .any base 22 v0 := by
    unfold Value.okWide at hok0
    rw [und22] at hok0
    exact hok0
  have hok1 := hval 1 23 v1 rfl rfl
  have hok1' : Cell.okWide Try.prog W .any base 23 v1 := by
    unfold Value.okWide at hok1
    rw [und23] at hok1
    exact hok1
  obtain ⟨f0, hf0⟩ := h0
  obtain ⟨f1, hf1⟩ := h1
  have hone0 : v0.cells.toList = [v0] := by obtain ⟨a, l, c, rfl⟩ := okWide_slice und22 hok0; rfl
  have hone1 : v1.cells.toList = [v1] := by obtain ⟨a, l, c, rfl⟩ := okWide_slice und23 hok1; rfl
  rw [hone0] at hf0
  rw [hone1] at hf1
  obtain ⟨bs, n, tt, ss, en, hsl⟩ := open_arg k1 6 und22 cells3 kinds3 (heap0 hs) hok0' hf0
  obtain ⟨cs, m, tt2, ss2, en2, hsl2⟩ := open_arg k2 6 und23 cells70 kinds70 (heap0 hs) hok1' hf1
  have hlt := fun x hx => hW'.lt x hx
  refine (law_calls haw hsl hsl2).mono fun e W' ⟨he, hb⟩ => ?_
  subst he
  refine ⟨_, rfl, post_of_below (pa := p0 ++ p1) (pv := []) hW' (fun _ _ _ => trodAll_mk1 (shut_bool und4 _)) (fun sp hsp => ?_) (fun _ _ => rfl) (by simp) hb (ok_one (by kernel_rfl) rfl (okWide_bool_mk und4 _))⟩
  rw [Try.params3]
  exact trodAll_mk2 (stays laidOut read22 row22 ⟨f0, by rw [hone0]; exact hf0⟩ hb (fun x hx => hlt x (by simp [hx])) (fun x hx => hsp x (by simp [hx])))
    (stays laidOut read23 row23 ⟨f1, by rw [hone1]; exact hf1⟩ hb (fun x hx => hlt x (by simp [hx])) (fun x hx => hsp x (by simp [hx])))
noncomputable def witWorld (os : Os) : World := World.holding Try.prog os ⟨#[], #[], []⟩
def wit : Array Value := #[.slice none 0 0, .slice none 0 0]
theorem reads (os : Os) {H : Type} (enc : TypeId × Value → H) : ∃ places, DataW.whole enc Try.prog ((witWorld os).forCall (fun _ _ => 0) ⟨#[], wit, []⟩).memory Try.f3.params.toList Rows.loadReversalsSpec.vars false wit.toList 8 =
    some ([.nil, .nil], [], places) :=
  ⟨[], by kernel_rfl⟩
theorem laid_none (os : Os) : laidMetH Try.prog Rows.loadReversalsRow.laid ((witWorld os).forCall (fun _ _ => 0) ⟨#[], wit, []⟩).memory :=
  laidMet_of_run' 8 (by kernel_rfl) (by kernel_rfl)
set_option maxRecDepth 100000 in
theorem lifted (haw : Pure Try.prog Hd 9 [] (b_ true)) (os : Os) (started : os.Started) (H : Type) (enc : TypeId × Value → H) (F : Stop.Interp) :
    ReturnsInHanded {} Try.checked os 3 .any ((OpenSpec.ofChange Rows.loadReversalsSpec).preRow enc Try.prog Try.f3 Rows.loadReversalsRow.domain false Rows.loadReversalsRow.laid) (((OpenSpec.ofChange Rows.loadReversalsSpec).at F).post enc Try.prog Try.f3 false true false false) := by
  obtain ⟨places, hx⟩ := reads os enc
  refine returnsInHanded_of_row (C := Try.checked) (s := OpenSpec.ofChange Rows.loadReversalsSpec) own started (by kernel_rfl) Try.func3
    (witness_row_at (enc := enc) (C := Try.checked) false (witWorld os) wit rfl (by kernel_rfl) (by kernel_rfl) (by kernel_rfl)
      (OpenSpec.preRow_of_cond 8 hx (by kernel_rfl) (fun k hk => by cases hk) (by kernel_rfl) (laid_none os))) ?_
  intro W base args ds gs before hval hW _ _ _ _ hs _
  exact contract haw H enc W base args ds gs before hval hW hs
end Go.Proofs.Ytphadgdlknhbnaa.Reversals
namespace Go.Proofs.Ytphadgdlknhbnaa
open Go Go.Ex Go.RowKit Go.Proofs.Ytphadgdlknhbnaa.Ways
theorem reversals_of (haw : Pure Try.prog Hd 9 [] (b_ true)) : Rows.LoadReversalsSaid :=
  OpenClaim.holds_of_cond 3 Try.f3 rfl rfl rfl rfl rfl rfl rfl ⟨rfl, rfl, rfl, rfl, rfl⟩ rfl rfl rfl rfl rfl (by kernel_rfl) Try.func3 (by kernel_rfl)
    (of_decide_eq_true (by kernel_rfl)) (by unfold Func.isWrapper; first | (rw [if_pos (by decide +kernel)]; kernel_rfl) | (rw [if_neg (by decide +kernel)]; exact ⟨rfl, rfl⟩))
    (fun os started H enc _ F => by rw [OpenClaim.pre_eq_preRow]; exact Reversals.lifted haw os started H enc F)
end Go.Proofs.Ytphadgdlknhbnaa
noncomputable section
namespace Go.Proofs.Ytphadgdlknhbnaa.Ways
open Go Go.Ex Go.RowKit
theorem p9 : Pure Try.prog Hd 9 [] (b_ true) := by
  obtain ⟨H', h'⟩ := Out.vals_sel (o := oAw) aw_fix (v := b_ true) (by rw [aw_vals]; rfl)
  exact Pure.of_sound (by decide) hd_len rfl (execO_sound (C := ⟨TQ, no_, off_, noL⟩) tsQ .none 300 _ _ h')
end Go.Proofs.Ytphadgdlknhbnaa.Ways
namespace Go.Proofs.Ytphadgdlknhbnaa
open Go Go.Ex Go.RowKit
theorem reversals_said : Rows.LoadReversalsSaid := reversals_of Ways.p9
end Go.Proofs.Ytphadgdlknhbnaa
