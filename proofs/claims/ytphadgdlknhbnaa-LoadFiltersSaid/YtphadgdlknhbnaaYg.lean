/- For every input nacellelaw07.LoadFilters returns true, and each argument reads afterwards as it read before: Filter, Joined and Closed give the results or the errors of the reference, for any two lists of reversals, any least range and any shift. Conditions: none. -/
import Derived.Test.YtphadgdlknhbnaaLf7
import Derived.Test.YtphadgdlknhbnaaEngCard
import Derived.Test.YtphadgdlknhbnaaEngArg
import Derived.Test.YtphadgdlknhbnaaRows
import Derived.Test.YtphadgdlknhbnaaLr6
namespace Go.Proofs.Ytphadgdlknhbnaa.Filters
open Go Go.Ex Go.ChangeShapes Go.WideShapes Go.ChangeAt Go.RowKit Go.Proofs.Ytphadgdlknhbnaa.Ways
theorem vrs_three {E : Env} {a b c a' b' c' : Value} (h1 : VR E a a') (h2 : VR E b b') (h3 : VR E c c') : VRs E ⟨[a, b, c]⟩ #[a', b', c'] := by
  refine ⟨rfl, fun i x x' hx hx' => ?_⟩
  match i, hx, hx' with
  | 0, hx, hx' => cases hx; cases hx'; exact h1
  | 1, hx, hx' => cases hx; cases hx'; exact h2
  | 2, hx, hx' => cases hx; cases hx'; exact h3
  | k + 3, hx, _ => simp at hx
theorem own : ownKnob Try.prog.godebug = none := by kernel_rfl
theorem laidOut : laidOutB Try.prog = true := by kernel_rfl
theorem kinds70 : kindsOkB Try.prog 6 70 k2 = true := by kernel_rfl
theorem kinds51 : kindsOkB Try.prog 6 51 k2 = true := by kernel_rfl
theorem agg51 : aggB Try.prog 51 = some true := by kernel_rfl
theorem cells70 : Try.prog.cellsOf 70 = k2.length := by kernel_rfl
theorem cells51 : Try.prog.cellsOf 51 = k2.length := by kernel_rfl
theorem und23 : Try.prog.underlying 23 = some (.slice 70) := by kernel_rfl
theorem und4 : Try.prog.underlying 4 = some .bool := by kernel_rfl
theorem read51 : Try.prog.readableRec 51 = true := by kernel_rfl
theorem read23 : Try.prog.readableRec 23 = true := by kernel_rfl
theorem row51 : 51 < Try.prog.types.size := of_decide_eq_true (by kernel_rfl)
theorem row23 : 23 < Try.prog.types.size := of_decide_eq_true (by kernel_rfl)
theorem rawP_of {W : World} {v : Value} {cs : List Value} {n t s : Nat} {en : En} (h : SliceArg W k2 v cs n t s en) : rawP cs n := ⟨h.flat, h.len, h.kinds⟩
theorem law_calls (haw : Pure Try.prog Hd 9 [] (b_ true)) {W : World} {cs ds : List Value} {n m t s t2 s2 : Nat} {en en2 : En} {v v2 : Value} {x y : Int} (h : SliceArg W k2 v cs n t s en) (h2 : SliceArg W k2 v2 ds m t2 s2 en2) :
    Calls Try.prog 5 #[v, v2, ag [i x, i y]] W fun e W' => e = .returned (b_ true) ∧ Below W.heap.size W W' := by
  have hw := WR.startA (W := W) (Hv := Hd) (H := heapL [.dead, .cells cs t s false, .cells ds t2 s2 false]) (es := [en, en2]) (by rw [heapL_len]; rfl) (Laid.of_dead hd_dead W) (fun b hb => by
    rw [heapL_get]
    match b, hb with
    | 0, _ => rfl) (fun j e hj => by
    match j, hj with
    | 0, hj => cases hj; exact ⟨.cells cs t s false, by rw [heapL_get]; rfl, h.at_⟩
    | 1, hj => cases hj; exact ⟨.cells ds t2 s2 false, by rw [heapL_get]; rfl, h2.at_⟩
    | j + 2, hj => simp at hj)
  have ha : VRs (startE gl ++ [en, en2]) ⟨[sl 1 0 n n, sl 2 0 m m, ag [i x, i y]]⟩ #[v, v2, ag [i x, i y]] := vrs_three (h.vr _ 1 rfl) (h2.vr _ 2 rfl) (VR.of_clean _ 7 _ rfl)
  obtain ⟨H', hs⟩ := law_true5 haw (t := t) (s := s) (t2 := t2) (s2 := s2) (ex := false) (e2 := false) (x := x) (y := y) (rawP_of h) (rawP_of h2)
  refine calls_args (H' := H') hw ha rfl ?_
  rw [heapL_len]
  exact hs
theorem glob0 : Try.prog.globals.size = 0 := by kernel_rfl
theorem heap_begin : 0 < (begin Try.prog (fun _ _ => 0) default).world.heap.size := of_decide_eq_true (by kernel_rfl)
theorem heap0 {W : World} (hs : W.ShapedOpen Try.prog) : (W.heap[0]?).isSome = true := by
  obtain ⟨o, _, h, _⟩ := hs.2 0 (by rw [glob0]; exact Nat.le_refl 0) heap_begin
  rw [h]; rfl
set_option maxRecDepth 100000 in
theorem contract (haw : Pure Try.prog Hd 9 [] (b_ true)) (H : Type) (enc : TypeId × Value → H) (W : World) (base : Nat) (args : Array Value) (ds gs : List (DataW H)) (before : List MemPlace)
    (hval : ∀ (j : Nat) t v, Try.f5.params[j]? = some t → args[j]? = some v → Value.okWide Try.prog W .any base t v)
    (hW : DataW.Whole enc Try.prog Try.f5.params.toList Rows.loadFiltersSpec.vars false W args.toList ds gs before) (hs : W.ShapedOpen Try.prog) :
    Calls Try.prog 5 args W fun e W' => ∃ v, e = .returned v ∧ Rows.loadFiltersSpec.post enc Try.prog Try.f5 false true false false W args v W' := by
  have hW' := hW
  obtain ⟨p, q, hA0, hV, rfl, hfz, hnd⟩ := hW
  have hA : DataW.TrodAll enc Try.prog W 0 (fun _ => true) true Try.f5.params.toList args.toList ds p := hA0
  rw [Try.params5] at hA hval
  obtain ⟨v0, v1, v2, d0, d1, d2, p0, p1, p2, rfl, rfl, rfl, h0, h1, h2⟩ := trodAll_three hA
  obtain ⟨rfl, rfl⟩ := trodVars_none hV
  clear hA0
  have hok0 := hval 0 23 v0 rfl rfl
  have hok0' : Cell.okWide Try.prog W .any base 23 v0 := by
    unfold Value.okWide at hok0
    rw [und23] at hok0
    exact hok0
  have hok1 := hval 1 23 v1 rfl rfl
  have hok1' : Cell.okWide Try.prog W .any base 23 v1 := by
    unfold Value.okWide at hok1
    rw [und23] at hok1
    exact hok1
  obtain ⟨c2, hv2, _, _⟩ := open_flat k2 6 agg51 cells51 kinds51 (hval 2 51 v2 rfl rfl) h2
  obtain ⟨f0, hf0⟩ := h0
  obtain ⟨f1, hf1⟩ := h1
  have hone0 : v0.cells.toList = [v0] := by obtain ⟨a, l, c, rfl⟩ := okWide_slice und23 hok0; rfl
  have hone1 : v1.cells.toList = [v1] := by obtain ⟨a, l, c, rfl⟩ := okWide_slice und23 hok1; rfl
  rw [hone0] at hf0
  rw [hone1] at hf1
  obtain ⟨xs, n, tt, ss, en, hsl⟩ := open_arg k2 6 und23 cells70 kinds70 (heap0 hs) hok0' hf0
  obtain ⟨bs, m, tt2, ss2, en2, hsl2⟩ := open_arg k2 6 und23 cells70 kinds70 (heap0 hs) hok1' hf1
  have hlt := fun x hx => hW'.lt x hx
  subst hv2
  refine (law_calls (x := intO c2[0]?) (y := intO c2[0 + 1]?) haw hsl hsl2).mono fun e W' ⟨he, hb⟩ => ?_
  subst he
  refine ⟨_, rfl, post_of_below (pa := p0 ++ (p1 ++ p2)) (pv := []) hW' (fun _ _ _ => trodAll_mk1 (shut_bool und4 _)) (fun sp hsp => ?_) (fun _ _ => rfl) (by simp) hb (ok_one (by kernel_rfl) rfl (okWide_bool_mk und4 _))⟩
  rw [Try.params5]
  exact trodAll_mk3 (stays laidOut read23 row23 ⟨f0, by rw [hone0]; exact hf0⟩ hb (fun x hx => hlt x (by simp [hx])) (fun x hx => hsp x (by simp [hx])))
    (stays laidOut read23 row23 ⟨f1, by rw [hone1]; exact hf1⟩ hb (fun x hx => hlt x (by simp [hx])) (fun x hx => hsp x (by simp [hx])))
    (stays laidOut read51 row51 h2 hb (fun x hx => hlt x (by simp [hx])) (fun x hx => hsp x (by simp [hx])))
noncomputable def witWorld (os : Os) : World := World.holding Try.prog os ⟨#[], #[], []⟩
def wit : Array Value := #[.slice none 0 0, .slice none 0 0, .agg #[.int .i64 0, .int .i64 0]]
theorem reads (os : Os) {H : Type} (enc : TypeId × Value → H) : ∃ places, DataW.whole enc Try.prog ((witWorld os).forCall (fun _ _ => 0) ⟨#[], wit, []⟩).memory Try.f5.params.toList Rows.loadFiltersSpec.vars false wit.toList 8 =
    some ([.nil, .nil, .agg [.lit (.int .i64 0), .lit (.int .i64 0)]], [], places) :=
  ⟨[], by kernel_rfl⟩
theorem laid_none (os : Os) : laidMetH Try.prog Rows.loadFiltersRow.laid ((witWorld os).forCall (fun _ _ => 0) ⟨#[], wit, []⟩).memory :=
  laidMet_of_run' 8 (by kernel_rfl) (by kernel_rfl)
set_option maxRecDepth 100000 in
theorem lifted (haw : Pure Try.prog Hd 9 [] (b_ true)) (os : Os) (started : os.Started) (H : Type) (enc : TypeId × Value → H) (F : Stop.Interp) :
    ReturnsInHanded {} Try.checked os 5 .any ((OpenSpec.ofChange Rows.loadFiltersSpec).preRow enc Try.prog Try.f5 Rows.loadFiltersRow.domain false Rows.loadFiltersRow.laid) (((OpenSpec.ofChange Rows.loadFiltersSpec).at F).post enc Try.prog Try.f5 false true false false) := by
  obtain ⟨places, hx⟩ := reads os enc
  refine returnsInHanded_of_row (C := Try.checked) (s := OpenSpec.ofChange Rows.loadFiltersSpec) own started (by kernel_rfl) Try.func5
    (witness_row_at (enc := enc) (C := Try.checked) false (witWorld os) wit rfl (by kernel_rfl) (by kernel_rfl) (by kernel_rfl)
      (OpenSpec.preRow_of_cond 8 hx (by kernel_rfl) (fun k hk => by cases hk) (by kernel_rfl) (laid_none os))) ?_
  intro W base args ds gs before hval hW _ _ _ _ hs _
  exact contract haw H enc W base args ds gs before hval hW hs
end Go.Proofs.Ytphadgdlknhbnaa.Filters
namespace Go.Proofs.Ytphadgdlknhbnaa
open Go Go.Ex Go.RowKit Go.Proofs.Ytphadgdlknhbnaa.Ways
theorem filters_of (haw : Pure Try.prog Hd 9 [] (b_ true)) : Rows.LoadFiltersSaid :=
  OpenClaim.holds_of_cond 5 Try.f5 rfl rfl rfl rfl rfl rfl rfl ⟨rfl, rfl, rfl, rfl, rfl⟩ rfl rfl rfl rfl rfl (by kernel_rfl) Try.func5 (by kernel_rfl)
    (of_decide_eq_true (by kernel_rfl)) (by unfold Func.isWrapper; first | (rw [if_pos (by decide +kernel)]; kernel_rfl) | (rw [if_neg (by decide +kernel)]; exact ⟨rfl, rfl⟩))
    (fun os started H enc _ F => by rw [OpenClaim.pre_eq_preRow]; exact Filters.lifted haw os started H enc F)
end Go.Proofs.Ytphadgdlknhbnaa
noncomputable section
namespace Go.Proofs.Ytphadgdlknhbnaa.Ways
open Go Go.Ex Go.RowKit
theorem p9 : Pure Try.prog Hd 9 [] (b_ true) := by
  obtain ⟨H', h'⟩ := Out.vals_sel (o := oAw) aw_fix (v := b_ true) (by rw [aw_vals]; rfl)
  exact Pure.of_sound (by decide) hd_len rfl (execO_sound (C := ⟨TQ, no_, off_, noL⟩) tsQ .none 300 _ _ h')
end Go.Proofs.Ytphadgdlknhbnaa.Ways
namespace Go.Proofs.Ytphadgdlknhbnaa
open Go Go.Ex Go.RowKit
theorem filters_said : Rows.LoadFiltersSaid := filters_of Ways.p9
end Go.Proofs.Ytphadgdlknhbnaa
