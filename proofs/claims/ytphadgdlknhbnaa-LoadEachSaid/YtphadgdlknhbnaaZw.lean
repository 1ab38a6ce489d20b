/- For every input nacellelaw07.LoadEach returns true, and each argument reads afterwards as it read before: each reversal of loads is in one cycle, with its load, or in the residue, once; a record rises above each level as often as its residue and its cycles; no cycle has a greater range than the record; four successive reversals of the residue have no cycle in the middle. Conditions: none. -/
import Derived.Test.YtphadgdlknhbnaaZq1
import Derived.Test.YtphadgdlknhbnaaEngCard
import Derived.Test.YtphadgdlknhbnaaEngArg
import Derived.Test.YtphadgdlknhbnaaRows
import Derived.Test.YtphadgdlknhbnaaLr6
namespace Go.Proofs.Ytphadgdlknhbnaa.EachL
open Go Go.Ex Go.ChangeShapes Go.WideShapes Go.ChangeAt Go.RowKit Go.Proofs.Ytphadgdlknhbnaa.Ways
theorem own : ownKnob Try.prog.godebug = none := by kernel_rfl
theorem laidOut : laidOutB Try.prog = true := by kernel_rfl
def k1 : List CK := [.i .i64]
theorem kinds3 : kindsOkB Try.prog 6 3 k1 = true := by kernel_rfl
theorem cells3 : Try.prog.cellsOf 3 = k1.length := by kernel_rfl
theorem und22 : Try.prog.underlying 22 = some (.slice 3) := by kernel_rfl
theorem und3 : Try.prog.underlying 3 = some (.int .i64) := by kernel_rfl
theorem und4 : Try.prog.underlying 4 = some .bool := by kernel_rfl
theorem read22 : Try.prog.readableRec 22 = true := by kernel_rfl
theorem read3 : Try.prog.readableRec 3 = true := by kernel_rfl
theorem row22 : 22 < Try.prog.types.size := of_decide_eq_true (by kernel_rfl)
theorem row3 : 3 < Try.prog.types.size := of_decide_eq_true (by kernel_rfl)
theorem rawI_of {W : World} {v : Value} {cs : List Value} {n t s : Nat} {en : En} (h : SliceArg W k1 v cs n t s en) : rawI cs n := by
  refine ⟨h.flat, by rw [h.len]; show n * 1 = n; omega, fun j hj => ?_⟩
  have h1 := h.kinds j hj
  unfold k1 areCells at h1
  rw [Bool.and_eq_true] at h1
  exact h1.1
theorem law_calls (haw : Pure Try.prog Hd 9 [] (b_ true)) {W : World} {cs : List Value} {n t s : Nat} {en : En} {v : Value} {a : Int} (h : SliceArg W k1 v cs n t s en) :
    Calls Try.prog 6 #[v, .int .i64 a] W fun e W' => e = .returned (b_ true) ∧ Below W.heap.size W W' := by
  have hw := WR.startA (W := W) (Hv := Hd) (H := heapL [.dead, .cells cs t s false]) (es := [en]) (by rw [heapL_len]; rfl) (Laid.of_dead hd_dead W) (fun b hb => by
    rw [heapL_get]
    match b, hb with
    | 0, _ => rfl) (fun j e hj => by
    match j, hj with
    | 0, hj => cases hj; exact ⟨.cells cs t s false, by rw [heapL_get]; rfl, h.at_⟩
    | j + 1, hj => simp at hj)
  have ha : VRs (startE gl ++ [en]) ⟨[sl 1 0 n n, i a]⟩ #[v, .int .i64 a] := vrs_two (h.vr _ 1 rfl) (VR.of_clean _ 7 _ rfl)
  obtain ⟨H', hs⟩ := law_true6 haw (t := t) (s := s) (ex := false) (x := a) (rawI_of h)
  refine calls_args (H' := H') hw ha rfl ?_
  rw [heapL_len]
  exact hs
theorem glob0 : Try.prog.globals.size = 0 := by kernel_rfl
theorem heap_begin : 0 < (begin Try.prog (fun _ _ => 0) default).world.heap.size := of_decide_eq_true (by kernel_rfl)
theorem heap0 {W : World} (hs : W.ShapedOpen Try.prog) : (W.heap[0]?).isSome = true := by
  obtain ⟨o, _, h, _⟩ := hs.2 0 (by rw [glob0]; exact Nat.le_refl 0) heap_begin
  rw [h]; rfl
set_option maxRecDepth 100000 in
theorem contract (haw : Pure Try.prog Hd 9 [] (b_ true)) (H : Type) (enc : TypeId × Value → H) (W : World) (base : Nat) (args : Array Value) (ds gs : List (DataW H)) (before : List MemPlace)
    (hval : ∀ (j : Nat) t v, Try.f6.params[j]? = some t → args[j]? = some v → Value.okWide Try.prog W .any base t v)
    (hW : DataW.Whole enc Try.prog Try.f6.params.toList Rows.loadEachSpec.vars false W args.toList ds gs before) (hs : W.ShapedOpen Try.prog) :
    Calls Try.prog 6 args W fun e W' => ∃ v, e = .returned v ∧ Rows.loadEachSpec.post enc Try.prog Try.f6 false true false false W args v W' := by
  have hW' := hW
  obtain ⟨p, q, hA0, hV, rfl, hfz, hnd⟩ := hW
  have hA : DataW.TrodAll enc Try.prog W 0 (fun _ => true) true Try.f6.params.toList args.toList ds p := hA0
  rw [Try.params6] at hA hval
  obtain ⟨v0, v1, d0, d1, p0, p1, rfl, rfl, rfl, h0, h1⟩ := trodAll_two hA
  obtain ⟨rfl, rfl⟩ := trodVars_none hV
  clear hA0
  have hok0 := hval 0 22 v0 rfl rfl
  have hok0' : Cell.okWide Try.prog W .any base 22 v0 := by
    unfold Value.okWide at hok0
    rw [und22] at hok0
    exact hok0
  obtain ⟨e8, hv1⟩ := okWide_int und3 (hval 1 3 v1 rfl rfl)
  obtain ⟨f0, hf0⟩ := h0
  have hone0 : v0.cells.toList = [v0] := by obtain ⟨a, l, c, rfl⟩ := okWide_slice und22 hok0; rfl
  rw [hone0] at hf0
  obtain ⟨bs, n, tt, ss, en, hsl⟩ := open_arg k1 6 und22 cells3 kinds3 (heap0 hs) hok0' hf0
  have hlt := fun x hx => hW'.lt x hx
  subst hv1
  refine (law_calls haw hsl).mono fun e W' ⟨he, hb⟩ => ?_
  subst he
  refine ⟨_, rfl, post_of_below (pa := p0 ++ p1) (pv := []) hW' (fun _ _ _ => trodAll_mk1 (shut_bool und4 _)) (fun sp hsp => ?_) (fun _ _ => rfl) (by simp) hb (ok_one (by kernel_rfl) rfl (okWide_bool_mk und4 _))⟩
  rw [Try.params6]
  exact trodAll_mk2 (stays laidOut read22 row22 ⟨f0, by rw [hone0]; exact hf0⟩ hb (fun x hx => hlt x (by simp [hx])) (fun x hx => hsp x (by simp [hx])))
    (stays laidOut read3 row3 h1 hb (fun x hx => hlt x (by simp [hx])) (fun x hx => hsp x (by simp [hx])))
noncomputable def witWorld (os : Os) : World := World.holding Try.prog os ⟨#[], #[], []⟩
def wit : Array Value := #[.slice none 0 0, .int .i64 0]
theorem reads (os : Os) {H : Type} (enc : TypeId × Value → H) : ∃ places, DataW.whole enc Try.prog ((witWorld os).forCall (fun _ _ => 0) ⟨#[], wit, []⟩).memory Try.f6.params.toList Rows.loadEachSpec.vars false wit.toList 8 =
    some ([.nil, .lit (.int .i64 0)], [], places) :=
  ⟨[], by kernel_rfl⟩
theorem laid_none (os : Os) : laidMetH Try.prog Rows.loadEachRow.laid ((witWorld os).forCall (fun _ _ => 0) ⟨#[], wit, []⟩).memory :=
  laidMet_of_run' 8 (by kernel_rfl) (by kernel_rfl)
set_option maxRecDepth 100000 in
theorem lifted (haw : Pure Try.prog Hd 9 [] (b_ true)) (os : Os) (started : os.Started) (H : Type) (enc : TypeId × Value → H) (F : Stop.Interp) :
    ReturnsInHanded {} Try.checked os 6 .any ((OpenSpec.ofChange Rows.loadEachSpec).preRow enc Try.prog Try.f6 Rows.loadEachRow.domain false Rows.loadEachRow.laid) (((OpenSpec.ofChange Rows.loadEachSpec).at F).post enc Try.prog Try.f6 false true false false) := by
  obtain ⟨places, hx⟩ := reads os enc
  refine returnsInHanded_of_row (C := Try.checked) (s := OpenSpec.ofChange Rows.loadEachSpec) own started (by kernel_rfl) Try.func6
    (witness_row_at (enc := enc) (C := Try.checked) false (witWorld os) wit rfl (by kernel_rfl) (by kernel_rfl) (by kernel_rfl)
      (OpenSpec.preRow_of_cond 8 hx (by kernel_rfl) (fun k hk => by cases hk) (by kernel_rfl) (laid_none os))) ?_
  intro W base args ds gs before hval hW _ _ _ _ hs _
  exact contract haw H enc W base args ds gs before hval hW hs
end Go.Proofs.Ytphadgdlknhbnaa.EachL
namespace Go.Proofs.Ytphadgdlknhbnaa
open Go Go.Ex Go.RowKit Go.Proofs.Ytphadgdlknhbnaa.Ways
theorem each_of (haw : Pure Try.prog Hd 9 [] (b_ true)) : Rows.LoadEachSaid :=
  OpenClaim.holds_of_cond 6 Try.f6 rfl rfl rfl rfl rfl rfl rfl ⟨rfl, rfl, rfl, rfl, rfl⟩ rfl rfl rfl rfl rfl (by kernel_rfl) Try.func6 (by kernel_rfl)
    (of_decide_eq_true (by kernel_rfl)) (by unfold Func.isWrapper; first | (rw [if_pos (by decide +kernel)]; kernel_rfl) | (rw [if_neg (by decide +kernel)]; exact ⟨rfl, rfl⟩))
    (fun os started H enc _ F => by rw [OpenClaim.pre_eq_preRow]; exact EachL.lifted haw os started H enc F)
end Go.Proofs.Ytphadgdlknhbnaa
noncomputable section
namespace Go.Proofs.Ytphadgdlknhbnaa.Ways
open Go Go.Ex Go.RowKit
theorem p9 : Pure Try.prog Hd 9 [] (b_ true) := by
  obtain ⟨H', h'⟩ := Out.vals_sel (o := oAw) aw_fix (v := b_ true) (by rw [aw_vals]; rfl)
  exact Pure.of_sound (by decide) hd_len rfl (execO_sound (C := ⟨TQ, no_, off_, noL⟩) tsQ .none 300 _ _ h')
end Go.Proofs.Ytphadgdlknhbnaa.Ways
namespace Go.Proofs.Ytphadgdlknhbnaa
open Go Go.Ex Go.RowKit
theorem each_said : Rows.LoadEachSaid := each_of Ways.p9
end Go.Proofs.Ytphadgdlknhbnaa
