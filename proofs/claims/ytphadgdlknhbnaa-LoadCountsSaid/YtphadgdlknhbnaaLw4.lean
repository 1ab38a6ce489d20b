/- For every input nacellelaw07.LoadCounts returns true, and each argument reads afterwards as it read before: Count and CheckCount give the results or the errors of the reference, for any reversals, any cycles and any residue. Conditions: none. -/
import Derived.Test.YtphadgdlknhbnaaLc5
import Derived.Test.YtphadgdlknhbnaaEngArg
import Derived.Test.YtphadgdlknhbnaaRows
import Derived.Test.YtphadgdlknhbnaaLr6
namespace Go.Proofs.Ytphadgdlknhbnaa.Counts
open Go Go.Ex Go.ChangeShapes Go.WideShapes Go.ChangeAt Go.RowKit Go.Proofs.Ytphadgdlknhbnaa.Ways
theorem vrs_three {E : Env} {a b c a' b' c' : Value} (h1 : VR E a a') (h2 : VR E b b') (h3 : VR E c c') : VRs E ⟨[a, b, c]⟩ #[a', b', c'] := by
  refine ⟨rfl, fun i x x' hx hx' => ?_⟩
  match i, hx, hx' with
  | 0, hx, hx' => cases hx; cases hx'; exact h1
  | 1, hx, hx' => cases hx; cases hx'; exact h2
  | 2, hx, hx' => cases hx; cases hx'; exact h3
  | k + 3, hx, _ => simp at hx
theorem own : ownKnob Try.prog.godebug = none := by kernel_rfl
theorem laidOut : laidOutB Try.prog = true := by kernel_rfl
theorem kinds70 : kindsOkB Try.prog 6 70 k2 = true := by kernel_rfl
theorem kinds69 : kindsOkB Try.prog 6 69 k4 = true := by kernel_rfl
theorem cells70 : Try.prog.cellsOf 70 = k2.length := by kernel_rfl
theorem cells69 : Try.prog.cellsOf 69 = k4.length := by kernel_rfl
theorem und40 : Try.prog.underlying 40 = some (.slice 69) := by kernel_rfl
theorem und23 : Try.prog.underlying 23 = some (.slice 70) := by kernel_rfl
theorem und4 : Try.prog.underlying 4 = some .bool := by kernel_rfl
theorem read40 : Try.prog.readableRec 40 = true := by kernel_rfl
theorem read23 : Try.prog.readableRec 23 = true := by kernel_rfl
theorem row40 : 40 < Try.prog.types.size := of_decide_eq_true (by kernel_rfl)
theorem row23 : 23 < Try.prog.types.size := of_decide_eq_true (by kernel_rfl)
theorem rawP_of {W : World} {v : Value} {cs : List Value} {n t s : Nat} {en : En} (h : SliceArg W k2 v cs n t s en) : rawP cs n := ⟨h.flat, h.len, h.kinds⟩
theorem rawF_of {W : World} {v : Value} {cs : List Value} {n t s : Nat} {en : En} (h : SliceArg W k4 v cs n t s en) : rawF cs n := ⟨h.flat, h.len, h.kinds⟩
theorem law_calls (haw : Pure Try.prog Hd 9 [] (b_ true)) {W : World} {cs ds rs : List Value} {n m k t s t2 s2 t3 s3 : Nat} {en en2 en3 : En} {v v2 v3 : Value} (h : SliceArg W k2 v cs n t s en) (h2 : SliceArg W k4 v2 ds m t2 s2 en2) (h3 : SliceArg W k2 v3 rs k t3 s3 en3) :
    Calls Try.prog 4 #[v, v2, v3] W fun e W' => e = .returned (b_ true) ∧ Below W.heap.size W W' := by
  have hw := WR.startA (W := W) (Hv := Hd) (H := heapL [.dead, .cells cs t s false, .cells ds t2 s2 false, .cells rs t3 s3 false]) (es := [en, en2, en3]) (by rw [heapL_len]; rfl) (Laid.of_dead hd_dead W) (fun b hb => by
    rw [heapL_get]
    match b, hb with
    | 0, _ => rfl) (fun j e hj => by
    match j, hj with
    | 0, hj => cases hj; exact ⟨.cells cs t s false, by rw [heapL_get]; rfl, h.at_⟩
    | 1, hj => cases hj; exact ⟨.cells ds t2 s2 false, by rw [heapL_get]; rfl, h2.at_⟩
    | 2, hj => cases hj; exact ⟨.cells rs t3 s3 false, by rw [heapL_get]; rfl, h3.at_⟩
    | j + 3, hj => simp at hj)
  have ha : VRs (startE gl ++ [en, en2, en3]) ⟨[sl 1 0 n n, sl 2 0 m m, sl 3 0 k k]⟩ #[v, v2, v3] := vrs_three (h.vr _ 1 rfl) (h2.vr _ 2 rfl) (h3.vr _ 3 rfl)
  obtain ⟨H', hs⟩ := law_true4 haw (t := t) (s := s) (t2 := t2) (s2 := s2) (t3 := t3) (s3 := s3) (ex := false) (e2 := false) (e3 := false) (rawP_of h) (rawF_of h2) (rawP_of h3)
  refine calls_args (H' := H') hw ha rfl ?_
  rw [heapL_len]
  exact hs
theorem glob0 : Try.prog.globals.size = 0 := by kernel_rfl
theorem heap_begin : 0 < (begin Try.prog (fun _ _ => 0) default).world.heap.size := of_decide_eq_true (by kernel_rfl)
theorem heap0 {W : World} (hs : W.ShapedOpen Try.prog) : (W.heap[0]?).isSome = true := by
  obtain ⟨o, _, h, _⟩ := hs.2 0 (by rw [glob0]; exact Nat.le_refl 0) heap_begin
  rw [h]; rfl
set_option maxRecDepth 100000 in
theorem contract (haw : Pure Try.prog Hd 9 [] (b_ true)) (H : Type) (enc : TypeId × Value → H) (W : World) (base : Nat) (args : Array Value) (ds gs : List (DataW H)) (before : List MemPlace)
    (hval : ∀ (j : Nat) t v, Try.f4.params[j]? = some t → args[j]? = some v → Value.okWide Try.prog W .any base t v)
    (hW : DataW.Whole enc Try.prog Try.f4.params.toList Rows.loadCountsSpec.vars false W args.toList ds gs before) (hs : W.ShapedOpen Try.prog) :
    Calls Try.prog 4 args W fun e W' => ∃ v, e = .returned v ∧ Rows.loadCountsSpec.post enc Try.prog Try.f4 false true false false W args v W' := by
  have hW' := hW
  obtain ⟨p, q, hA0, hV, rfl, hfz, hnd⟩ := hW
  have hA : DataW.TrodAll enc Try.prog W 0 (fun _ => true) true Try.f4.params.toList args.toList ds p := hA0
  rw [Try.params4] at hA hval
  obtain ⟨v0, v1, v2, d0, d1, d2, p0, p1, p2, rfl, rfl, rfl, h0, h1, h2⟩ := trodAll_three hA
  obtain ⟨rfl, rfl⟩ := trodVars_none hV
  clear hA0
  have hok0 := hval 0 23 v0 rfl rfl
  have hok0' : Cell.okWide Try.prog W .any base 23 v0 := by
    unfold Value.okWide at hok0
    rw [und23] at hok0
    exact hok0
  have hok1 := hval 1 40 v1 rfl rfl
  have hok1' : Cell.okWide Try.prog W .any base 40 v1 := by
    unfold Value.okWide at hok1
    rw [und40] at hok1
    exact hok1
  have hok2 := hval 2 23 v2 rfl rfl
  have hok2' : Cell.okWide Try.prog W .any base 23 v2 := by
    unfold Value.okWide at hok2
    rw [und23] at hok2
    exact hok2
  obtain ⟨f0, hf0⟩ := h0
  obtain ⟨f1, hf1⟩ := h1
  obtain ⟨f2, hf2⟩ := h2
  have hone0 : v0.cells.toList = [v0] := by obtain ⟨a, l, c, rfl⟩ := okWide_slice und23 hok0; rfl
  have hone1 : v1.cells.toList = [v1] := by obtain ⟨a, l, c, rfl⟩ := okWide_slice und40 hok1; rfl
  have hone2 : v2.cells.toList = [v2] := by obtain ⟨a, l, c, rfl⟩ := okWide_slice und23 hok2; rfl
  rw [hone0] at hf0
  rw [hone1] at hf1
  rw [hone2] at hf2
  obtain ⟨xs, n, tt, ss, en, hsl⟩ := open_arg k2 6 und23 cells70 kinds70 (heap0 hs) hok0' hf0
  obtain ⟨bs, m, tt2, ss2, en2, hsl2⟩ := open_arg k4 6 und40 cells69 kinds69 (heap0 hs) hok1' hf1
  obtain ⟨cs, k, tt3, ss3, en3, hsl3⟩ := open_arg k2 6 und23 cells70 kinds70 (heap0 hs) hok2' hf2
  have hlt := fun x hx => hW'.lt x hx
  refine (law_calls haw hsl hsl2 hsl3).mono fun e W' ⟨he, hb⟩ => ?_
  subst he
  refine ⟨_, rfl, post_of_below (pa := p0 ++ (p1 ++ p2)) (pv := []) hW' (fun _ _ _ => trodAll_mk1 (shut_bool und4 _)) (fun sp hsp => ?_) (fun _ _ => rfl) (by simp) hb (ok_one (by kernel_rfl) rfl (okWide_bool_mk und4 _))⟩
  rw [Try.params4]
  exact trodAll_mk3 (stays laidOut read23 row23 ⟨f0, by rw [hone0]; exact hf0⟩ hb (fun x hx => hlt x (by simp [hx])) (fun x hx => hsp x (by simp [hx])))
    (stays laidOut read40 row40 ⟨f1, by rw [hone1]; exact hf1⟩ hb (fun x hx => hlt x (by simp [hx])) (fun x hx => hsp x (by simp [hx])))
    (stays laidOut read23 row23 ⟨f2, by rw [hone2]; exact hf2⟩ hb (fun x hx => hlt x (by simp [hx])) (fun x hx => hsp x (by simp [hx])))
noncomputable def witWorld (os : Os) : World := World.holding Try.prog os ⟨#[], #[], []⟩
def wit : Array Value := #[.slice none 0 0, .slice none 0 0, .slice none 0 0]
theorem reads (os : Os) {H : Type} (enc : TypeId × Value → H) : ∃ places, DataW.whole enc Try.prog ((witWorld os).forCall (fun _ _ => 0) ⟨#[], wit, []⟩).memory Try.f4.params.toList Rows.loadCountsSpec.vars false wit.toList 8 =
    some ([.nil, .nil, .nil], [], places) :=
  ⟨[], by kernel_rfl⟩
theorem laid_none (os : Os) : laidMetH Try.prog Rows.loadCountsRow.laid ((witWorld os).forCall (fun _ _ => 0) ⟨#[], wit, []⟩).memory :=
  laidMet_of_run' 8 (by kernel_rfl) (by kernel_rfl)
set_option maxRecDepth 100000 in
theorem lifted (haw : Pure Try.prog Hd 9 [] (b_ true)) (os : Os) (started : os.Started) (H : Type) (enc : TypeId × Value → H) (F : Stop.Interp) :
    ReturnsInHanded {} Try.checked os 4 .any ((OpenSpec.ofChange Rows.loadCountsSpec).preRow enc Try.prog Try.f4 Rows.loadCountsRow.domain false Rows.loadCountsRow.laid) (((OpenSpec.ofChange Rows.loadCountsSpec).at F).post enc Try.prog Try.f4 false true false false) := by
  obtain ⟨places, hx⟩ := reads os enc
  refine returnsInHanded_of_row (C := Try.checked) (s := OpenSpec.ofChange Rows.loadCountsSpec) own started (by kernel_rfl) Try.func4
    (witness_row_at (enc := enc) (C := Try.checked) false (witWorld os) wit rfl (by kernel_rfl) (by kernel_rfl) (by kernel_rfl)
      (OpenSpec.preRow_of_cond 8 hx (by kernel_rfl) (fun k hk => by cases hk) (by kernel_rfl) (laid_none os))) ?_
  intro W base args ds gs before hval hW _ _ _ _ hs _
  exact contract haw H enc W base args ds gs before hval hW hs
end Go.Proofs.Ytphadgdlknhbnaa.Counts
namespace Go.Proofs.Ytphadgdlknhbnaa
open Go Go.Ex Go.RowKit Go.Proofs.Ytphadgdlknhbnaa.Ways
theorem counts_of (haw : Pure Try.prog Hd 9 [] (b_ true)) : Rows.LoadCountsSaid :=
  OpenClaim.holds_of_cond 4 Try.f4 rfl rfl rfl rfl rfl rfl rfl ⟨rfl, rfl, rfl, rfl, rfl⟩ rfl rfl rfl rfl rfl (by kernel_rfl) Try.func4 (by kernel_rfl)
    (of_decide_eq_true (by kernel_rfl)) (by unfold Func.isWrapper; first | (rw [if_pos (by decide +kernel)]; kernel_rfl) | (rw [if_neg (by decide +kernel)]; exact ⟨rfl, rfl⟩))
    (fun os started H enc _ F => by rw [OpenClaim.pre_eq_preRow]; exact Counts.lifted haw os started H enc F)
end Go.Proofs.Ytphadgdlknhbnaa
noncomputable section
namespace Go.Proofs.Ytphadgdlknhbnaa.Ways
open Go Go.Ex Go.RowKit
theorem p9 : Pure Try.prog Hd 9 [] (b_ true) := by
  obtain ⟨H', h'⟩ := Out.vals_sel (o := oAw) aw_fix (v := b_ true) (by rw [aw_vals]; rfl)
  exact Pure.of_sound (by decide) hd_len rfl (execO_sound (C := ⟨TQ, no_, off_, noL⟩) tsQ .none 300 _ _ h')
end Go.Proofs.Ytphadgdlknhbnaa.Ways
namespace Go.Proofs.Ytphadgdlknhbnaa
open Go Go.Ex Go.RowKit
theorem counts_said : Rows.LoadCountsSaid := counts_of Ways.p9
end Go.Proofs.Ytphadgdlknhbnaa
