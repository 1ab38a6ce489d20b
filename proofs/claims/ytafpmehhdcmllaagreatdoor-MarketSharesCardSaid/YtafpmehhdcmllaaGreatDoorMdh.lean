/- For every input nacellelaw08.MarketShares returns true, and its arguments read afterwards as they read before: what is fed in adds up to the limit, or to all that is available; none feeds in more than it has, nor more than one off its exact share; equal energies differ by at most 1, and who has more feeds in no less; and in the reversed order each one feeds in as much, or one more or less, for any list and any limit. Conditions: the three package-level tables hold what the program's text lays. -/
import Derived.Test.YtafpmehhdcmllaaGreatDoorMx3
import Derived.Test.YtafpmehhdcmllaaGreatDoorMdh0
namespace Go.Proofs.YtafpmehhdcmllaaGreatDoor.Shares
open Go Go.Ex Go.ChangeShapes Go.WideShapes Go.ChangeAt Go.RowKit Go.Proofs.YtafpmehhdcmllaaGreatDoor.Ways
theorem own : ownKnob Tryz.prog.godebug = none := by kernel_rfl
theorem laidOut : laidOutB Tryz.prog = true := by kernel_rfl
theorem laid_world {W : World} (hs : W.ShapedOpen Tryz.prog) (hL : laidMetH Tryz.prog Rows.marketSharesRow.laid W) : Laid Ha W := by
  have hL' : laidMet Tryz.prog Rows.marketSharesRow.laid W := hL
  intro b o ho ha
  refine LaidAt.weak ?_
  rcases ha_get ho with ⟨rfl, rfl⟩ | ⟨rfl, rfl⟩ | ⟨rfl, rfl⟩ | ⟨rfl, rfl⟩
  · cases ha
  · exact laid_at 2 6 hs hL' rfl (by kernel_rfl) (of_decide_eq_true (by kernel_rfl)) (t0 := 287) (by kernel_rfl) (by kernel_rfl) (by kernel_rfl) (by kernel_rfl) clean1
  · exact laid_at 0 6 hs hL' rfl (by kernel_rfl) (of_decide_eq_true (by kernel_rfl)) (t0 := 289) (by kernel_rfl) (by kernel_rfl) (by kernel_rfl) (by kernel_rfl) clean2
  · exact laid_at 1 6 hs hL' rfl (by kernel_rfl) (of_decide_eq_true (by kernel_rfl)) (t0 := 290) (by kernel_rfl) (by kernel_rfl) (by kernel_rfl) (by kernel_rfl) clean3
def kI : List CK := [.i .i64]
theorem kinds3 : kindsOkB Tryz.prog 6 3 kI = true := by kernel_rfl
theorem cells3 : Tryz.prog.cellsOf 3 = kI.length := by kernel_rfl
theorem und64 : Tryz.prog.underlying 64 = some (.slice 3) := by kernel_rfl
theorem und3 : Tryz.prog.underlying 3 = some (.int .i64) := by kernel_rfl
theorem und4 : Tryz.prog.underlying 4 = some .bool := by kernel_rfl
theorem read64 : Tryz.prog.readableRec 64 = true := by kernel_rfl
theorem read3 : Tryz.prog.readableRec 3 = true := by kernel_rfl
theorem row64 : 64 < Tryz.prog.types.size := of_decide_eq_true (by kernel_rfl)
theorem row3t : 3 < Tryz.prog.types.size := of_decide_eq_true (by kernel_rfl)
theorem rawI_of {W : World} {v : Value} {cs : List Value} {n t s : Nat} {en : En} (h : SliceArg W kI v cs n t s en) : rawI cs n := ⟨h.flat, h.len, h.kinds⟩
noncomputable def hpA (cs : List Value) (t s : Nat) : List CO := hA ++ [.cells cs t s false]
theorem heapA_len (cs : List Value) (t s : Nat) : (heapL (hpA cs t s)).length = gl + 1 := by rw [heapL_len]; rfl
theorem heapA_same (cs : List Value) (t s : Nat) : ∀ b, b < gl → (heapL (hpA cs t s))[b]? = Ha[b]? := by
  intro b hb
  rw [heapL_get]
  match b, hb with
  | 0, _ => rfl
  | 1, _ => rfl
  | 2, _ => rfl
  | 3, _ => rfl
/-- the call returns true -/
theorem law_calls {W : World} {cs : List Value} {n t s : Nat} {en : En} {v : Value} {a : Int} (hv : Laid Ha W) (h : SliceArg W kI v cs n t s en) :
    Calls Tryz.prog 11 #[v, .int .i64 a] W fun e W' => e = .returned (b_ true) ∧ Below W.heap.size W W' := by
  have hw := WR.startA (W := W) (Hv := Ha) (H := heapL (hpA cs t s)) (es := [en]) (by rw [heapA_len]; rfl) hv (heapA_same cs t s) (fun j e hj => by
    match j, hj with
    | 0, hj => cases hj; exact ⟨.cells cs t s false, by rw [heapL_get]; rfl, h.at_⟩
    | j + 1, hj => simp at hj)
  have ha : VRs (startE gl ++ [en]) ⟨[sl 4 0 n n, i a]⟩ #[v, .int .i64 a] := vrs_two (h.vr _ 4 rfl) (VR.of_clean _ 7 _ rfl)
  obtain ⟨H', hs⟩ := law11_true (t := t) (s := s) (ex := false) (lim := a) (rawI_of h)
  refine calls_args (H' := H') hw ha rfl ?_
  rw [heapA_len]
  exact hs
theorem heap0 {W : World} (hv : Laid Ha W) : (W.heap[0]?).isSome = true := by
  obtain ⟨_, _, _, _, _, fz, h⟩ := hv 1 (.cells pow10 287 1 true) rfl rfl
  have h1 := (Array.getElem?_eq_some_iff.1 h).1
  rw [Array.getElem?_eq_getElem (by omega)]; rfl
set_option maxRecDepth 100000 in
theorem contract (H : Type) (enc : TypeId × Value → H) (W : World) (base : Nat) (args : Array Value) (ds gs : List (DataW H)) (before : List MemPlace)
    (hval : ∀ (j : Nat) t v, Tryz.f11.params[j]? = some t → args[j]? = some v → Value.okWide Tryz.prog W .any base t v)
    (hW : DataW.Whole enc Tryz.prog Tryz.f11.params.toList Rows.marketSharesSpec.vars false W args.toList ds gs before) (hL : laidMetH Tryz.prog Rows.marketSharesRow.laid W) (hs : W.ShapedOpen Tryz.prog) :
    Calls Tryz.prog 11 args W fun e W' => ∃ v, e = .returned v ∧ Rows.marketSharesSpec.post enc Tryz.prog Tryz.f11 false true false false W args v W' := by
  have hW' := hW
  obtain ⟨p, q, hA0, hV, rfl, hfz, hnd⟩ := hW
  have hA : DataW.TrodAll enc Tryz.prog W 0 (fun _ => true) true Tryz.f11.params.toList args.toList ds p := hA0
  rw [Tryz.params11] at hA hval
  obtain ⟨v0, v1, d0, d1, p0, p1, rfl, rfl, rfl, h0, h1⟩ := trodAll_two hA
  obtain ⟨rfl, rfl⟩ := trodVars_none hV
  clear hA0
  have hlw := laid_world hs hL
  have hok1 := hval 0 64 v0 rfl rfl
  have hok1' : Cell.okWide Tryz.prog W .any base 64 v0 := by
    unfold Value.okWide at hok1
    rw [und64] at hok1
    exact hok1
  obtain ⟨f1, hf1⟩ := h0
  have hone1 : v0.cells.toList = [v0] := by obtain ⟨a, l, c, rfl⟩ := okWide_slice und64 hok1; rfl
  rw [hone1] at hf1
  obtain ⟨cs, n, tt, ss, en, hsl⟩ := open_arg kI 6 und64 cells3 kinds3 (heap0 hlw) hok1' hf1
  obtain ⟨e8, hv1⟩ := okWide_int und3 (hval 1 3 v1 rfl rfl)
  have hlt := fun x hx => hW'.lt x hx
  subst hv1
  refine (law_calls hlw hsl).mono fun e W' ⟨he, hbl⟩ => ?_
  subst he
  refine ⟨_, rfl, post_of_below (pa := p0 ++ p1) (pv := []) hW' (fun _ _ _ => trodAll_mk1 (shut_bool und4 _)) (fun sp hsp => ?_) (fun _ _ => rfl) (by simp) hbl (ok_one (by kernel_rfl) rfl (okWide_bool_mk und4 _))⟩
  rw [Tryz.params11]
  exact trodAll_mk2 (stays laidOut read64 row64 ⟨f1, by rw [hone1]; exact hf1⟩ hbl (fun x hx => hlt x (by simp [hx])) (fun x hx => hsp x (by simp [hx])))
    (stays laidOut read3 row3t h1 hbl (fun x hx => hlt x (by simp [hx])) (fun x hx => hsp x (by simp [hx])))
/-- A WORLD FOR THE WITNESS: the settled one, each table holding what its initialiser lays. -/
noncomputable def put1 (b : Nat) (l : List Value) (h : Array Obj) : Array Obj := h.modify b fun
  | .cells _ t frozen => .cells ⟨l⟩ t frozen
  | o => o
noncomputable def laidWorld (os : Os) : World :=
  { World.holding Tryz.prog os ⟨#[], #[], []⟩ with heap := put1 3 tab64 (put1 2 tab32 (put1 1 pow10 (World.holding Tryz.prog os ⟨#[], #[], []⟩).heap)) }
def wit : Array Value := #[.slice none 0 0, .int .i64 0]
theorem laid_met (os : Os) : laidMet Tryz.prog Rows.marketSharesRow.laid ((laidWorld os).forCall (fun _ _ => 0) ⟨#[], wit, []⟩).memory :=
  laidMet_of_run' 8 (by kernel_rfl) (by kernel_rfl)
theorem reads (os : Os) {H : Type} (enc : TypeId × Value → H) : ∃ places, DataW.whole enc Tryz.prog ((laidWorld os).forCall (fun _ _ => 0) ⟨#[], wit, []⟩).memory Tryz.f11.params.toList Rows.marketSharesSpec.vars false wit.toList 8 =
    some ([.nil, .lit (.int .i64 0)], [], places) :=
  ⟨[], by kernel_rfl⟩
set_option maxRecDepth 100000 in
theorem lifted (os : Os) (started : os.Started) (H : Type) (enc : TypeId × Value → H) (F : Stop.Interp) :
    ReturnsInHanded {} Tryz.checked os 11 .any ((OpenSpec.ofChange Rows.marketSharesSpec).preRow enc Tryz.prog Tryz.f11 Rows.marketSharesRow.domain false Rows.marketSharesRow.laid) (((OpenSpec.ofChange Rows.marketSharesSpec).at F).post enc Tryz.prog Tryz.f11 false true false false) := by
  obtain ⟨places, hx⟩ := reads os enc
  refine returnsInHanded_of_row (C := Tryz.checked) (s := OpenSpec.ofChange Rows.marketSharesSpec) own started (by kernel_rfl) Tryz.func11
    (witness_row_at (enc := enc) (C := Tryz.checked) false (laidWorld os) wit rfl (by kernel_rfl) (by kernel_rfl) (by kernel_rfl)
      (OpenSpec.preRow_of_cond 8 hx (by kernel_rfl) (fun k hk => by cases hk) (by kernel_rfl) (laid_met os))) ?_
  intro W base args ds gs before hval hW _ _ _ hL hs _
  exact contract H enc W base args ds gs before hval hW hL hs
theorem said : Rows.MarketSharesSaid :=
  OpenClaim.holds_of_cond 11 Tryz.f11 rfl rfl rfl rfl rfl rfl rfl ⟨rfl, rfl, rfl, rfl, rfl⟩ rfl rfl rfl rfl rfl (by kernel_rfl) Tryz.func11 facts
    (of_decide_eq_true (by kernel_rfl)) (by unfold Func.isWrapper; first | (rw [if_pos (by decide +kernel)]; kernel_rfl) | (rw [if_neg (by decide +kernel)]; exact ⟨rfl, rfl⟩))
    (fun os started H enc _ F => by rw [OpenClaim.pre_eq_preRow]; exact lifted os started H enc F)
theorem plain (f : FuncId) (fn : Func) (hf : Tryz.pinned.checked.prog.funcNamed "nacelle/nacellelaw08.MarketShares" = some f) (hfn : Tryz.pinned.checked.prog.funcs[f]? = some fn) :
    false = Tryz.pinned.checked.prog.looks [] ∧ ∀ (j : Nat) t, fn.params[j]? = some t → Tryz.pinned.checked.prog.wantsStandIn t = false := by
  obtain rfl : f = 11 := Option.some.inj ((show Tryz.prog.funcNamed "nacelle/nacellelaw08.MarketShares" = some 11 by kernel_rfl).symm.trans hf) |>.symm
  obtain rfl : fn = Tryz.f11 := (Option.some.inj (Tryz.func11.symm.trans hfn)).symm
  refine ⟨by kernel_rfl, fun j t ht => ?_⟩
  rw [Tryz.params11] at ht
  have hm : t ∈ [64, 3] := by simpa using Array.mem_of_getElem? ht
  have hall : ([64, 3].all fun u => !Tryz.prog.wantsStandIn u) = true := by kernel_rfl
  exact (show Tryz.prog.wantsStandIn t = false by simpa using List.all_eq_true.1 hall t hm)
end Go.Proofs.YtafpmehhdcmllaaGreatDoor.Shares
namespace Go.Proofs.YtafpmehhdcmllaaGreatDoor
/-- ████ THE CARD ████ -/
theorem shares_card : Rows.MarketSharesCardSaid :=
  Claim7.holds_tied_plain_at .later [] _ _ _ _ Shares.said (fun _ h => by cases h) (by kernel_rfl) (fun _ h => by cases h) marketShares_row_tie rfl ⟨rfl, rfl⟩ (by kernel_rfl) rfl Shares.plain (by kernel_rfl)
end Go.Proofs.YtafpmehhdcmllaaGreatDoor
