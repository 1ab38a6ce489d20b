/- For every input nacellelaw08.MarketSettles returns true, and each argument reads afterwards as it read before: the settlement of a quarter, of a list of quarters, its books and their errors are those of the reference, for any quarter, quarters and prices. Conditions: the three package-level tables hold what the program's text lays. -/
import Derived.Test.YtafpmehhdcmllaaGreatDoorMn
import Derived.Test.YtafpmehhdcmllaaGreatDoorMo0
namespace Go.Proofs.YtafpmehhdcmllaaGreatDoor.Settles
open Go Go.Ex Go.ChangeShapes Go.WideShapes Go.ChangeAt Go.RowKit Go.Proofs.YtafpmehhdcmllaaGreatDoor.Ways
theorem own : ownKnob Tryz.prog.godebug = none := by kernel_rfl
theorem laidOut : laidOutB Tryz.prog = true := by kernel_rfl
theorem laid_world {W : World} (hs : W.ShapedOpen Tryz.prog) (hL : laidMetH Tryz.prog Rows.marketSettlesRow.laid W) : Laid Ha W := by
  have hL' : laidMet Tryz.prog Rows.marketSettlesRow.laid W := hL
  intro b o ho ha
  refine LaidAt.weak ?_
  rcases ha_get ho with ⟨rfl, rfl⟩ | ⟨rfl, rfl⟩ | ⟨rfl, rfl⟩ | ⟨rfl, rfl⟩
  · cases ha
  · exact laid_at 2 6 hs hL' rfl (by kernel_rfl) (of_decide_eq_true (by kernel_rfl)) (t0 := 287) (by kernel_rfl) (by kernel_rfl) (by kernel_rfl) (by kernel_rfl) clean1
  · exact laid_at 0 6 hs hL' rfl (by kernel_rfl) (of_decide_eq_true (by kernel_rfl)) (t0 := 289) (by kernel_rfl) (by kernel_rfl) (by kernel_rfl) (by kernel_rfl) clean2
  · exact laid_at 1 6 hs hL' rfl (by kernel_rfl) (of_decide_eq_true (by kernel_rfl)) (t0 := 290) (by kernel_rfl) (by kernel_rfl) (by kernel_rfl) (by kernel_rfl) clean3
theorem kinds73 : kindsOkB Tryz.prog 6 73 k5 = true := by kernel_rfl
theorem kinds24 : kindsOkB Tryz.prog 6 24 k3 = true := by kernel_rfl
theorem cells73 : Tryz.prog.cellsOf 73 = k5.length := by kernel_rfl
theorem cells24 : Tryz.prog.cellsOf 24 = k3.length := by kernel_rfl
theorem agg73 : aggB Tryz.prog 73 = some true := by kernel_rfl
theorem und74 : Tryz.prog.underlying 74 = some (.slice 73) := by kernel_rfl
theorem und75 : Tryz.prog.underlying 75 = some (.slice 24) := by kernel_rfl
theorem und4 : Tryz.prog.underlying 4 = some .bool := by kernel_rfl
theorem read73 : Tryz.prog.readableRec 73 = true := by kernel_rfl
theorem read74 : Tryz.prog.readableRec 74 = true := by kernel_rfl
theorem read75 : Tryz.prog.readableRec 75 = true := by kernel_rfl
theorem row73 : 73 < Tryz.prog.types.size := of_decide_eq_true (by kernel_rfl)
theorem row74 : 74 < Tryz.prog.types.size := of_decide_eq_true (by kernel_rfl)
theorem row75 : 75 < Tryz.prog.types.size := of_decide_eq_true (by kernel_rfl)
theorem rawQ_of {W : World} {v : Value} {cs : List Value} {n t s : Nat} {en : En} (h : SliceArg W k5 v cs n t s en) : rawQ cs n := ⟨h.flat, h.len, h.kinds⟩
theorem rawP_of {W : World} {v : Value} {cs : List Value} {n t s : Nat} {en : En} (h : SliceArg W k3 v cs n t s en) : rawP cs n := ⟨h.flat, h.len, h.kinds⟩
noncomputable def hpA (cs : List Value) (t s : Nat) (ps : List Value) (t2 s2 : Nat) : List CO := hA ++ [.cells cs t s false, .cells ps t2 s2 false]
theorem heapA_len (cs : List Value) (t s : Nat) (ps : List Value) (t2 s2 : Nat) : (heapL (hpA cs t s ps t2 s2)).length = gl + 2 := by rw [heapL_len]; rfl
theorem heapA_same (cs : List Value) (t s : Nat) (ps : List Value) (t2 s2 : Nat) : ∀ b, b < gl → (heapL (hpA cs t s ps t2 s2))[b]? = Ha[b]? := by
  intro b hb
  rw [heapL_get]
  match b, hb with
  | 0, _ => rfl
  | 1, _ => rfl
  | 2, _ => rfl
  | 3, _ => rfl
theorem vrs_three {E : Env} {a b c a' b' c' : Value} (h1 : VR E a a') (h2 : VR E b b') (h3 : VR E c c') : VRs E ⟨[a, b, c]⟩ #[a', b', c'] := by
  refine ⟨rfl, fun i x x' hx hx' => ?_⟩
  match i, hx, hx' with
  | 0, hx, hx' => cases hx; cases hx'; exact h1
  | 1, hx, hx' => cases hx; cases hx'; exact h2
  | 2, hx, hx' => cases hx; cases hx'; exact h3
  | k + 3, hx, _ => simp at hx
/-- the call returns true -/
theorem law_calls {W : World} {cs ps : List Value} {n m t s t2 s2 : Nat} {en en2 : En} {v v2 : Value} {a b c d e : Int} (hv : Laid Ha W) (h : SliceArg W k5 v cs n t s en) (h2 : SliceArg W k3 v2 ps m t2 s2 en2) :
    Calls Tryz.prog 7 #[ag [i a, i b, i c, i d, i e], v, v2] W fun e W' => e = .returned (b_ true) ∧ Below W.heap.size W W' := by
  have hw := WR.startA (W := W) (Hv := Ha) (H := heapL (hpA cs t s ps t2 s2)) (es := [en, en2]) (by rw [heapA_len]; rfl) hv (heapA_same cs t s ps t2 s2) (fun j e hj => by
    match j, hj with
    | 0, hj => cases hj; exact ⟨.cells cs t s false, by rw [heapL_get]; rfl, h.at_⟩
    | 1, hj => cases hj; exact ⟨.cells ps t2 s2 false, by rw [heapL_get]; rfl, h2.at_⟩
    | j + 2, hj => simp at hj)
  have ha : VRs (startE gl ++ [en, en2]) ⟨[ag [i a, i b, i c, i d, i e], sl 4 0 n n, sl 5 0 m m]⟩ #[ag [i a, i b, i c, i d, i e], v, v2] :=
    vrs_three (VR.of_clean _ 7 _ rfl) (h.vr _ 4 rfl) (h2.vr _ 5 rfl)
  obtain ⟨H', hs⟩ := law_true (t := t) (s := s) (t2 := t2) (s2 := s2) (ex := false) (e2 := false) (a := a) (b := b) (c := c) (d := d) (e := e) (rawQ_of h) (rawP_of h2)
  refine calls_args (H' := H') hw ha rfl ?_
  rw [heapA_len]
  exact hs
theorem heap0 {W : World} (hv : Laid Ha W) : (W.heap[0]?).isSome = true := by
  obtain ⟨_, _, _, _, _, fz, h⟩ := hv 1 (.cells pow10 287 1 true) rfl rfl
  have h1 := (Array.getElem?_eq_some_iff.1 h).1
  rw [Array.getElem?_eq_getElem (by omega)]; rfl
set_option maxRecDepth 100000 in
theorem contract (H : Type) (enc : TypeId × Value → H) (W : World) (base : Nat) (args : Array Value) (ds gs : List (DataW H)) (before : List MemPlace)
    (hval : ∀ (j : Nat) t v, Tryz.f7.params[j]? = some t → args[j]? = some v → Value.okWide Tryz.prog W .any base t v)
    (hW : DataW.Whole enc Tryz.prog Tryz.f7.params.toList Rows.marketSettlesSpec.vars false W args.toList ds gs before) (hL : laidMetH Tryz.prog Rows.marketSettlesRow.laid W) (hs : W.ShapedOpen Tryz.prog) :
    Calls Tryz.prog 7 args W fun e W' => ∃ v, e = .returned v ∧ Rows.marketSettlesSpec.post enc Tryz.prog Tryz.f7 false true false false W args v W' := by
  have hW' := hW
  obtain ⟨p, q, hA0, hV, rfl, hfz, hnd⟩ := hW
  have hA : DataW.TrodAll enc Tryz.prog W 0 (fun _ => true) true Tryz.f7.params.toList args.toList ds p := hA0
  rw [Tryz.params7] at hA hval
  obtain ⟨v0, v1, v2, d0, d1, d2, p0, p1, p2, rfl, rfl, rfl, h0, h1, h2⟩ := trodAll_three hA
  obtain ⟨rfl, rfl⟩ := trodVars_none hV
  clear hA0
  have hlw := laid_world hs hL
  obtain ⟨c0, hv0, _, _⟩ := open_flat k5 6 agg73 cells73 kinds73 (hval 0 73 v0 rfl rfl) h0
  have hok1 := hval 1 74 v1 rfl rfl
  have hok1' : Cell.okWide Tryz.prog W .any base 74 v1 := by
    unfold Value.okWide at hok1
    rw [und74] at hok1
    exact hok1
  have hok2 := hval 2 75 v2 rfl rfl
  have hok2' : Cell.okWide Tryz.prog W .any base 75 v2 := by
    unfold Value.okWide at hok2
    rw [und75] at hok2
    exact hok2
  obtain ⟨f1, hf1⟩ := h1
  obtain ⟨f2, hf2⟩ := h2
  have hone1 : v1.cells.toList = [v1] := by obtain ⟨a, l, c, rfl⟩ := okWide_slice und74 hok1; rfl
  have hone2 : v2.cells.toList = [v2] := by obtain ⟨a, l, c, rfl⟩ := okWide_slice und75 hok2; rfl
  rw [hone1] at hf1
  rw [hone2] at hf2
  obtain ⟨cs, n, tt, ss, en, hsl⟩ := open_arg k5 6 und74 cells73 kinds73 (heap0 hlw) hok1' hf1
  obtain ⟨ps, m, tt2, ss2, en2, hsl2⟩ := open_arg k3 6 und75 cells24 kinds24 (heap0 hlw) hok2' hf2
  have hlt := fun x hx => hW'.lt x hx
  subst hv0
  refine (law_calls (a := intO c0[0]?) (b := intO c0[0 + 1]?) (c := intO c0[0 + 1 + 1]?) (d := intO c0[0 + 1 + 1 + 1]?) (e := intO c0[0 + 1 + 1 + 1 + 1]?) hlw hsl hsl2).mono fun e W' ⟨he, hbl⟩ => ?_
  subst he
  refine ⟨_, rfl, post_of_below (pa := p0 ++ (p1 ++ p2)) (pv := []) hW' (fun _ _ _ => trodAll_mk1 (shut_bool und4 _)) (fun sp hsp => ?_) (fun _ _ => rfl) (by simp) hbl (ok_one (by kernel_rfl) rfl (okWide_bool_mk und4 _))⟩
  rw [Tryz.params7]
  exact trodAll_mk3 (stays laidOut read73 row73 h0 hbl (fun x hx => hlt x (by simp [hx])) (fun x hx => hsp x (by simp [hx])))
    (stays laidOut read74 row74 ⟨f1, by rw [hone1]; exact hf1⟩ hbl (fun x hx => hlt x (by simp [hx])) (fun x hx => hsp x (by simp [hx])))
    (stays laidOut read75 row75 ⟨f2, by rw [hone2]; exact hf2⟩ hbl (fun x hx => hlt x (by simp [hx])) (fun x hx => hsp x (by simp [hx])))
/-- A WORLD FOR THE WITNESS: the settled one, each table holding what its initialiser lays. -/
noncomputable def put1 (b : Nat) (l : List Value) (h : Array Obj) : Array Obj := h.modify b fun
  | .cells _ t frozen => .cells ⟨l⟩ t frozen
  | o => o
noncomputable def laidWorld (os : Os) : World :=
  { World.holding Tryz.prog os ⟨#[], #[], []⟩ with heap := put1 3 tab64 (put1 2 tab32 (put1 1 pow10 (World.holding Tryz.prog os ⟨#[], #[], []⟩).heap)) }
def wit : Array Value := #[.agg #[.int .i64 0, .int .i64 0, .int .i64 0, .int .i64 0, .int .i64 0], .slice none 0 0, .slice none 0 0]
theorem laid_met (os : Os) : laidMet Tryz.prog Rows.marketSettlesRow.laid ((laidWorld os).forCall (fun _ _ => 0) ⟨#[], wit, []⟩).memory :=
  laidMet_of_run' 8 (by kernel_rfl) (by kernel_rfl)
theorem reads (os : Os) {H : Type} (enc : TypeId × Value → H) : ∃ places, DataW.whole enc Tryz.prog ((laidWorld os).forCall (fun _ _ => 0) ⟨#[], wit, []⟩).memory Tryz.f7.params.toList Rows.marketSettlesSpec.vars false wit.toList 8 =
    some ([.agg [.lit (.int .i64 0), .lit (.int .i64 0), .lit (.int .i64 0), .lit (.int .i64 0), .lit (.int .i64 0)], .nil, .nil], [], places) :=
  ⟨[], by kernel_rfl⟩
set_option maxRecDepth 100000 in
theorem lifted (os : Os) (started : os.Started) (H : Type) (enc : TypeId × Value → H) (F : Stop.Interp) :
    ReturnsInHanded {} Tryz.checked os 7 .any ((OpenSpec.ofChange Rows.marketSettlesSpec).preRow enc Tryz.prog Tryz.f7 Rows.marketSettlesRow.domain false Rows.marketSettlesRow.laid) (((OpenSpec.ofChange Rows.marketSettlesSpec).at F).post enc Tryz.prog Tryz.f7 false true false false) := by
  obtain ⟨places, hx⟩ := reads os enc
  refine returnsInHanded_of_row (C := Tryz.checked) (s := OpenSpec.ofChange Rows.marketSettlesSpec) own started (by kernel_rfl) Tryz.func7
    (witness_row_at (enc := enc) (C := Tryz.checked) false (laidWorld os) wit rfl (by kernel_rfl) (by kernel_rfl) (by kernel_rfl)
      (OpenSpec.preRow_of_cond 8 hx (by kernel_rfl) (fun k hk => by cases hk) (by kernel_rfl) (laid_met os))) ?_
  intro W base args ds gs before hval hW _ _ _ hL hs _
  exact contract H enc W base args ds gs before hval hW hL hs
theorem said : Rows.MarketSettlesSaid :=
  OpenClaim.holds_of_cond 7 Tryz.f7 rfl rfl rfl rfl rfl rfl rfl ⟨rfl, rfl, rfl, rfl, rfl⟩ rfl rfl rfl rfl rfl (by kernel_rfl) Tryz.func7 facts
    (of_decide_eq_true (by kernel_rfl)) (by unfold Func.isWrapper; first | (rw [if_pos (by decide +kernel)]; kernel_rfl) | (rw [if_neg (by decide +kernel)]; exact ⟨rfl, rfl⟩))
    (fun os started H enc _ F => by rw [OpenClaim.pre_eq_preRow]; exact lifted os started H enc F)
theorem plain (f : FuncId) (fn : Func) (hf : Tryz.pinned.checked.prog.funcNamed "nacelle/nacellelaw08.MarketSettles" = some f) (hfn : Tryz.pinned.checked.prog.funcs[f]? = some fn) :
    false = Tryz.pinned.checked.prog.looks [] ∧ ∀ (j : Nat) t, fn.params[j]? = some t → Tryz.pinned.checked.prog.wantsStandIn t = false := by
  obtain rfl : f = 7 := Option.some.inj ((show Tryz.prog.funcNamed "nacelle/nacellelaw08.MarketSettles" = some 7 by kernel_rfl).symm.trans hf) |>.symm
  obtain rfl : fn = Tryz.f7 := (Option.some.inj (Tryz.func7.symm.trans hfn)).symm
  refine ⟨by kernel_rfl, fun j t ht => ?_⟩
  rw [Tryz.params7] at ht
  have hm : t ∈ [73, 74, 75] := by simpa using Array.mem_of_getElem? ht
  have hall : ([73, 74, 75].all fun u => !Tryz.prog.wantsStandIn u) = true := by kernel_rfl
  exact (show Tryz.prog.wantsStandIn t = false by simpa using List.all_eq_true.1 hall t hm)
end Go.Proofs.YtafpmehhdcmllaaGreatDoor.Settles
namespace Go.Proofs.YtafpmehhdcmllaaGreatDoor
/-- ████ THE CARD ████ -/
theorem settles_card : Rows.MarketSettlesCardSaid :=
  Claim7.holds_tied_plain_at .later [] _ _ _ _ Settles.said (fun _ h => by cases h) (by kernel_rfl) (fun _ h => by cases h) marketSettles_row_tie rfl ⟨rfl, rfl⟩ (by kernel_rfl) rfl Settles.plain (by kernel_rfl)
end Go.Proofs.YtafpmehhdcmllaaGreatDoor
