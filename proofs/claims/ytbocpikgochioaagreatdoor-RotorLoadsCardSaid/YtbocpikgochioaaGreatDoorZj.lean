/- For every input nacellelaw03.RotorLoads returns true, and each argument reads afterwards as it read before: Split, Merge, Rotating and Fixed give the results and the errors of the reference, for any loads, sum, pair and record. Conditions: the four package-level tables hold what the program's text lays. -/
import Derived.Test.YtbocpikgochioaaGreatDoorZi
import Derived.Test.YtbocpikgochioaaGreatDoorEngCard
import Derived.Test.YtbocpikgochioaaGreatDoorCards
import Derived.Test.YtbocpikgochioaaGreatDoorTie
namespace Go.Proofs.YtbocpikgochioaaGreatDoor.Loads
open Go Go.Ex Go.ChangeShapes Go.WideShapes Go.ChangeAt Go.RowKit Go.Proofs.YtbocpikgochioaaGreatDoor.Ways
theorem own : ownKnob Tryz.prog.godebug = none := by kernel_rfl
theorem laidOut : laidOutB Tryz.prog = true := by kernel_rfl
theorem laid_world {W : World} (hs : W.ShapedOpen Tryz.prog) (hL : laidMetH Tryz.prog Rows.rotorLoadsRow.laid W) : Laid Ha W := by
  have hL' : laidMet Tryz.prog Rows.rotorLoadsRow.laid W := hL
  intro b o ho _
  refine LaidAt.weak ?_
  rcases ha_get ho with ⟨rfl, rfl⟩ | ⟨rfl, rfl⟩ | ⟨rfl, rfl⟩ | ⟨rfl, rfl⟩
  · exact laid_at 3 6 hs hL' rfl (by kernel_rfl) (of_decide_eq_true (by kernel_rfl)) (t0 := 180) (by kernel_rfl) (by kernel_rfl) (by kernel_rfl) (by kernel_rfl) clean0
  · exact laid_at 2 6 hs hL' rfl (by kernel_rfl) (of_decide_eq_true (by kernel_rfl)) (t0 := 201) (by kernel_rfl) (by kernel_rfl) (by kernel_rfl) (by kernel_rfl) clean1
  · exact laid_at 0 6 hs hL' rfl (by kernel_rfl) (of_decide_eq_true (by kernel_rfl)) (t0 := 208) (by kernel_rfl) (by kernel_rfl) (by kernel_rfl) (by kernel_rfl) clean2
  · exact laid_at 1 6 hs hL' rfl (by kernel_rfl) (of_decide_eq_true (by kernel_rfl)) (t0 := 209) (by kernel_rfl) (by kernel_rfl) (by kernel_rfl) (by kernel_rfl) clean3
def k6 : List CK := [.i .i64, .i .i64, .i .i64, .i .i64, .i .i64, .i .i64]
theorem kinds97 : kindsOkB Tryz.prog 6 97 k6 = true := by kernel_rfl
theorem kinds93 : kindsOkB Tryz.prog 6 93 k3 = true := by kernel_rfl
theorem cells97 : Tryz.prog.cellsOf 97 = k6.length := by kernel_rfl
theorem cells93 : Tryz.prog.cellsOf 93 = k3.length := by kernel_rfl
theorem agg97 : aggB Tryz.prog 97 = some true := by kernel_rfl
theorem und98 : Tryz.prog.underlying 98 = some (.slice 93) := by kernel_rfl
theorem read97 : Tryz.prog.readableRec 97 = true := by kernel_rfl
theorem read98 : Tryz.prog.readableRec 98 = true := by kernel_rfl
theorem row97 : 97 < Tryz.prog.types.size := of_decide_eq_true (by kernel_rfl)
theorem row98 : 98 < Tryz.prog.types.size := of_decide_eq_true (by kernel_rfl)
theorem und4 : Tryz.prog.underlying 4 = some .bool := by kernel_rfl
theorem heapA_len (cs : List Value) (t s : Nat) : (heapL (hpW cs t s)).length = gl + 1 := by rw [heapL_len]; rfl
theorem heapA_same (cs : List Value) (t s : Nat) : ∀ b, b < gl → (heapL (hpW cs t s))[b]? = Ha[b]? := by
  intro b hb
  rw [heapL_get]
  match b, hb with
  | 0, _ => rfl
  | 1, _ => rfl
  | 2, _ => rfl
  | 3, _ => rfl
/-- the call returns true -/
theorem law_calls {W : World} {x y z s a b : Int} {cs : List Value} {n t ss : Nat} {en : En} {v : Value} (hv : Laid Ha W) (h : SliceArg W k3 v cs n t ss en) :
    Calls Tryz.prog Fn.law03_RotorLoads #[xV x y z s a b, v] W fun e W' => e = .returned (b_ true) ∧ Below W.heap.size W W' := by
  have hw := WR.startA (W := W) (Hv := Ha) (H := heapL (hpW cs t ss)) (es := [en]) (by rw [heapA_len]; rfl) hv (heapA_same cs t ss) (fun j e hj => by
    match j, hj with
    | 0, hj => cases hj; exact ⟨.cells cs t ss false, by rw [heapL_get]; rfl, h.at_⟩
    | j + 1, hj => simp at hj)
  have hE : (startE gl ++ [en])[4]? = some en := rfl
  have ha : VRs (startE gl ++ [en]) ⟨[xV x y z s a b, sl 4 0 n n]⟩ #[xV x y z s a b, v] := vrs_two (VR.of_clean _ 7 _ rfl) (h.vr _ 4 hE)
  by_cases h0 : n = 0
  · subst h0
    have hcs : cs = [] := List.eq_nil_of_length_eq_zero (by rw [h.len, Nat.zero_mul])
    subst hcs
    obtain ⟨H', hs⟩ := Out.vals_sel (law_fix0 x y z s a b t ss) (v := b_ true) (by rw [law_run0]; exact law_sel0)
    refine calls_args (H' := H') hw ha rfl ?_
    rw [heapA_len]
    exact execO_sound (C := CW0) ts15 .none 40 _ _ hs
  · obtain ⟨H', hs⟩ := Out.vals_sel (law_fix x y z s a b cs n t ss) (v := b_ true) (by rw [law_run]; exact law_sel h.flat h.kinds h.len h0)
    refine calls_args (H' := H') hw ha rfl ?_
    rw [heapA_len]
    exact execO_sound (C := CW) ts15 .none 40 _ _ hs
theorem heap0 {W : World} (hv : Laid Ha W) : (W.heap[0]?).isSome = true := by
  obtain ⟨_, _, _, _, _, fz, h⟩ := hv 0 (.cells powers 180 1 true) rfl rfl
  rw [h]; rfl
set_option maxRecDepth 100000 in
theorem contract (H : Type) (enc : TypeId × Value → H) (W : World) (base : Nat) (args : Array Value) (ds gs : List (DataW H)) (before : List MemPlace)
    (hval : ∀ (j : Nat) t v, Tryz.f7.params[j]? = some t → args[j]? = some v → Value.okWide Tryz.prog W .any base t v)
    (hW : DataW.Whole enc Tryz.prog Tryz.f7.params.toList Rows.rotorLoadsSpec.vars false W args.toList ds gs before) (hL : laidMetH Tryz.prog Rows.rotorLoadsRow.laid W) (hs : W.ShapedOpen Tryz.prog) :
    Calls Tryz.prog 7 args W fun e W' => ∃ v, e = .returned v ∧ Rows.rotorLoadsSpec.post enc Tryz.prog Tryz.f7 false true false false W args v W' := by
  have hW' := hW
  obtain ⟨p, q, hA0, hV, rfl, hfz, hnd⟩ := hW
  have hA : DataW.TrodAll enc Tryz.prog W 0 (fun _ => true) true Tryz.f7.params.toList args.toList ds p := hA0
  rw [Tryz.params7] at hA hval
  obtain ⟨v0, v1, d0, d1, p0, p1, rfl, rfl, rfl, h0, h1⟩ := trodAll_two hA
  obtain ⟨rfl, rfl⟩ := trodVars_none hV
  clear hA0
  have hlw := laid_world hs hL
  obtain ⟨c0, hv0, _, _⟩ := open_flat k6 6 agg97 cells97 kinds97 (hval 0 97 v0 rfl rfl) h0
  have hok1 := hval 1 98 v1 rfl rfl
  have hok1' : Cell.okWide Tryz.prog W .any base 98 v1 := by
    unfold Value.okWide at hok1
    rw [und98] at hok1
    exact hok1
  obtain ⟨f1, hf1⟩ := h1
  have hv1 : ∃ a l c, v1 = .slice a l c := okWide_slice und98 hok1
  have hone : v1.cells.toList = [v1] := by obtain ⟨a, l, c, rfl⟩ := hv1; rfl
  rw [hone] at hf1
  obtain ⟨cs, n, tt, ss, en, hsl⟩ := open_arg k3 6 und98 cells93 kinds93 (heap0 hlw) hok1' hf1
  have hlt := fun x hx => hW'.lt x hx
  subst hv0
  refine (law_calls (x := intO c0[0]?) (y := intO c0[0 + 1]?) (z := intO c0[0 + 1 + 1]?) (s := intO c0[0 + 1 + 1 + 1]?) (a := intO c0[0 + 1 + 1 + 1 + 1]?) (b := intO c0[0 + 1 + 1 + 1 + 1 + 1]?) hlw hsl).mono fun e W' ⟨he, hb⟩ => ?_
  subst he
  refine ⟨_, rfl, post_of_below (pa := p0 ++ p1) (pv := []) hW' (fun _ _ _ => trodAll_mk1 (shut_bool und4 _)) (fun sp hsp => ?_) (fun _ _ => rfl) rfl hb (ok_one (by kernel_rfl) rfl (okWide_bool_mk und4 _))⟩
  rw [Tryz.params7]
  exact trodAll_mk2 (stays laidOut read97 row97 h0 hb (fun x hx => hlt x (by simp [hx])) (fun x hx => hsp x (by simp [hx])))
    (stays laidOut read98 row98 ⟨f1, by rw [hone]; exact hf1⟩ hb (fun x hx => hlt x (by simp [hx])) (fun x hx => hsp x (by simp [hx])))
/-- A WORLD FOR THE WITNESS: the settled one, each table holding what its initialiser lays. -/
noncomputable def put1 (b : Nat) (l : List Value) (h : Array Obj) : Array Obj := h.modify b fun
  | .cells _ t frozen => .cells ⟨l⟩ t frozen
  | o => o
noncomputable def laidWorld (os : Os) : World :=
  { World.holding Tryz.prog os ⟨#[], #[], []⟩ with heap := put1 3 tab64 (put1 2 tab32 (put1 1 pow10 (put1 0 powers (World.holding Tryz.prog os ⟨#[], #[], []⟩).heap))) }
def wit : Array Value := #[.agg #[.int .i64 0, .int .i64 0, .int .i64 0, .int .i64 0, .int .i64 0, .int .i64 0], .slice none 0 0]
theorem laid_met (os : Os) : laidMet Tryz.prog Rows.rotorLoadsRow.laid ((laidWorld os).forCall (fun _ _ => 0) ⟨#[], wit, []⟩).memory :=
  laidMet_of_run' 8 (by kernel_rfl) (by kernel_rfl)
theorem reads (os : Os) {H : Type} (enc : TypeId × Value → H) : ∃ places, DataW.whole enc Tryz.prog ((laidWorld os).forCall (fun _ _ => 0) ⟨#[], wit, []⟩).memory Tryz.f7.params.toList Rows.rotorLoadsSpec.vars false wit.toList 8 =
    some ([.agg [.agg [.lit (.int .i64 0), .lit (.int .i64 0), .lit (.int .i64 0)], .lit (.int .i64 0), .agg [.lit (.int .i64 0), .lit (.int .i64 0)]], .nil], [], places) :=
  ⟨[], by kernel_rfl⟩
set_option maxRecDepth 100000 in
theorem lifted (os : Os) (started : os.Started) (H : Type) (enc : TypeId × Value → H) (F : Stop.Interp) :
    ReturnsInHanded {} Tryz.checked os 7 .any ((OpenSpec.ofChange Rows.rotorLoadsSpec).preRow enc Tryz.prog Tryz.f7 Rows.rotorLoadsRow.domain false Rows.rotorLoadsRow.laid) (((OpenSpec.ofChange Rows.rotorLoadsSpec).at F).post enc Tryz.prog Tryz.f7 false true false false) := by
  obtain ⟨places, hx⟩ := reads os enc
  refine returnsInHanded_of_row (C := Tryz.checked) (s := OpenSpec.ofChange Rows.rotorLoadsSpec) own started (by kernel_rfl) Tryz.func7
    (witness_row_at (enc := enc) (C := Tryz.checked) false (laidWorld os) wit rfl (by kernel_rfl) (by kernel_rfl) (by kernel_rfl)
      (OpenSpec.preRow_of_cond 8 hx (by kernel_rfl) (fun k hk => by cases hk) (by kernel_rfl) (laid_met os))) ?_
  intro W base args ds gs before hval hW _ _ _ hL hs _
  exact contract H enc W base args ds gs before hval hW hL hs
theorem said : Rows.RotorLoadsSaid :=
  OpenClaim.holds_of_cond 7 Tryz.f7 rfl rfl rfl rfl rfl rfl rfl ⟨rfl, rfl, rfl, rfl, rfl⟩ rfl rfl rfl rfl rfl (by kernel_rfl) Tryz.func7 (by kernel_rfl)
    (of_decide_eq_true (by kernel_rfl)) (by unfold Func.isWrapper; first | (rw [if_pos (by decide +kernel)]; kernel_rfl) | (rw [if_neg (by decide +kernel)]; exact ⟨rfl, rfl⟩))
    (fun os started H enc _ F => by rw [OpenClaim.pre_eq_preRow]; exact lifted os started H enc F)
theorem plain (f : FuncId) (fn : Func) (hf : Tryz.pinned.checked.prog.funcNamed "nacelle/nacellelaw03.RotorLoads" = some f) (hfn : Tryz.pinned.checked.prog.funcs[f]? = some fn) :
    false = Tryz.pinned.checked.prog.looks [] ∧ ∀ (j : Nat) t, fn.params[j]? = some t → Tryz.pinned.checked.prog.wantsStandIn t = false := by
  obtain rfl : f = 7 := Option.some.inj ((show Tryz.prog.funcNamed "nacelle/nacellelaw03.RotorLoads" = some 7 by kernel_rfl).symm.trans hf) |>.symm
  obtain rfl : fn = Tryz.f7 := (Option.some.inj (Tryz.func7.symm.trans hfn)).symm
  refine ⟨by kernel_rfl, fun j t ht => ?_⟩
  rw [Tryz.params7] at ht
  have hm : t ∈ [97, 98] := by simpa using Array.mem_of_getElem? ht
  have hall : ([97, 98].all fun u => !Tryz.prog.wantsStandIn u) = true := by kernel_rfl
  exact (show Tryz.prog.wantsStandIn t = false by simpa using List.all_eq_true.1 hall t hm)
end Go.Proofs.YtbocpikgochioaaGreatDoor.Loads
namespace Go.Proofs.YtbocpikgochioaaGreatDoor
/-- ████ THE CARD ████ -/
theorem loads_card : Rows.RotorLoadsCardSaid :=
  Claim7.holds_tied_plain_at .later [] _ _ _ _ Loads.said (fun _ h => by cases h) (by kernel_rfl) (fun _ h => by cases h) rotorLoads_row_tie rfl ⟨rfl, rfl⟩ (by kernel_rfl) rfl Loads.plain (by kernel_rfl)
end Go.Proofs.YtbocpikgochioaaGreatDoor
