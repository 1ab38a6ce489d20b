/- For every input nacellelaw08.MarketBooks returns true, and each argument reads afterwards as it read before: the books of quarters are those of a part and of the rest together, what settles each quarter adds up, and the amounts keep to the offer, for any quarters, prices and place to part them. Conditions: the three package-level tables hold what the program's text lays. -/
import Derived.Test.YtafpmehhdcmllaaGreatDoorMqp
import Derived.Test.YtafpmehhdcmllaaGreatDoorMq0f
namespace Go.Proofs.YtafpmehhdcmllaaGreatDoor.Books
open Go Go.Ex Go.ChangeShapes Go.WideShapes Go.ChangeAt Go.RowKit Go.Proofs.YtafpmehhdcmllaaGreatDoor.Ways
theorem own : ownKnob Tryz.prog.godebug = none := by kernel_rfl
theorem laidOut : laidOutB Tryz.prog = true := by kernel_rfl
theorem laid_world {W : World} (hs : W.ShapedOpen Tryz.prog) (hL : laidMetH Tryz.prog Rows.marketBooksRow.laid W) : Laid Ha W := by
  have hL' : laidMet Tryz.prog Rows.marketBooksRow.laid W := hL
  intro b o ho ha
  refine LaidAt.weak ?_
  rcases ha_get ho with ⟨rfl, rfl⟩ | ⟨rfl, rfl⟩ | ⟨rfl, rfl⟩ | ⟨rfl, rfl⟩
  · cases ha
  · exact laid_at 2 6 hs hL' rfl (by kernel_rfl) (of_decide_eq_true (by kernel_rfl)) (t0 := 287) (by kernel_rfl) (by kernel_rfl) (by kernel_rfl) (by kernel_rfl) clean1
  · exact laid_at 0 6 hs hL' rfl (by kernel_rfl) (of_decide_eq_true (by kernel_rfl)) (t0 := 289) (by kernel_rfl) (by kernel_rfl) (by kernel_rfl) (by kernel_rfl) clean2
  · exact laid_at 1 6 hs hL' rfl (by kernel_rfl) (of_decide_eq_true (by kernel_rfl)) (t0 := 290) (by kernel_rfl) (by kernel_rfl) (by kernel_rfl) (by kernel_rfl) clean3
theorem kinds73 : kindsOkB Tryz.prog 6 73 k5 = true := by kernel_rfl
theorem kinds24 : kindsOkB Tryz.prog 6 24 k3 = true := by kernel_rfl
theorem cells73 : Tryz.prog.cellsOf 73 = k5.length := by kernel_rfl
theorem cells24 : Tryz.prog.cellsOf 24 = k3.length := by kernel_rfl
theorem und5 : Tryz.prog.underlying 5 = some (.int .u8) := by kernel_rfl
theorem und74 : Tryz.prog.underlying 74 = some (.slice 73) := by kernel_rfl
theorem und75 : Tryz.prog.underlying 75 = some (.slice 24) := by kernel_rfl
theorem und4 : Tryz.prog.underlying 4 = some .bool := by kernel_rfl
theorem read5 : Tryz.prog.readableRec 5 = true := by kernel_rfl
theorem read74 : Tryz.prog.readableRec 74 = true := by kernel_rfl
theorem read75 : Tryz.prog.readableRec 75 = true := by kernel_rfl
theorem row5t : 5 < Tryz.prog.types.size := of_decide_eq_true (by kernel_rfl)
theorem row74 : 74 < Tryz.prog.types.size := of_decide_eq_true (by kernel_rfl)
theorem row75 : 75 < Tryz.prog.types.size := of_decide_eq_true (by kernel_rfl)
theorem rawQ_of {W : World} {v : Value} {cs : List Value} {n t s : Nat} {en : En} (h : SliceArg W k5 v cs n t s en) : rawQ cs n := ⟨h.flat, h.len, h.kinds⟩
theorem rawP_of {W : World} {v : Value} {cs : List Value} {n t s : Nat} {en : En} (h : SliceArg W k3 v cs n t s en) : rawP cs n := ⟨h.flat, h.len, h.kinds⟩
noncomputable def hpA (cs : List Value) (t s : Nat) (ps : List Value) (t2 s2 : Nat) : List CO := hA ++ [.cells cs t s false, .cells ps t2 s2 false]
theorem heapA_len (cs : List Value) (t s : Nat) (ps : List Value) (t2 s2 : Nat) : (heapL (hpA cs t s ps t2 s2)).length = gl + 2 := by rw [heapL_len]; rfl
theorem heapA_same (cs : List Value) (t s : Nat) (ps : List Value) (t2 s2 : Nat) : ∀ b, b < gl → (heapL (hpA cs t s ps t2 s2))[b]? = Ha[b]? := by
  intro b hb
  rw [heapL_get]
  match b, hb with
  | 0, _ => rfl
  | 1, _ => rfl
  | 2, _ => rfl
  | 3, _ => rfl
theorem vrs_three {E : Env} {a b c a' b' c' : Value} (h1 : VR E a a') (h2 : VR E b b') (h3 : VR E c c') : VRs E ⟨[a, b, c]⟩ #[a', b', c'] := by
  refine ⟨rfl, fun i x x' hx hx' => ?_⟩
  match i, hx, hx' with
  | 0, hx, hx' => cases hx; cases hx'; exact h1
  | 1, hx, hx' => cases hx; cases hx'; exact h2
  | 2, hx, hx' => cases hx; cases hx'; exact h3
  | k + 3, hx, _ => simp at hx
theorem okWide_u8 {P : Program} {w : World} {r : Reach} {base : Nat} {t : TypeId} {v : Value} (ht : P.underlying t = some (.int .u8)) (h : Value.okWide P w r base t v) : ∃ n, v = .int .u8 n ∧ (0 ≤ n ∧ n ≤ 255) := by
  obtain ⟨n, rfl⟩ := okWide_int ht h
  refine ⟨n, rfl, ?_⟩
  simp [Value.okWide, ht, Cell.okWide, Cell.ok, IntKind.has] at h
  have m1 : IntKind.min .u8 = 0 := by decide
  have m2 : IntKind.max .u8 = 255 := by decide
  rw [m1, m2] at h
  exact h
/-- the call returns true -/
theorem law_calls {W : World} {cs ps : List Value} {n m t s t2 s2 : Nat} {en en2 : En} {v v2 : Value} {a : Int} (hv : Laid Ha W) (hat : 0 ≤ a ∧ a ≤ 255) (h : SliceArg W k5 v cs n t s en) (h2 : SliceArg W k3 v2 ps m t2 s2 en2) :
    Calls Tryz.prog 12 #[v, v2, .int .u8 a] W fun e W' => e = .returned (b_ true) ∧ Below W.heap.size W W' := by
  have hw := WR.startA (W := W) (Hv := Ha) (H := heapL (hpA cs t s ps t2 s2)) (es := [en, en2]) (by rw [heapA_len]; rfl) hv (heapA_same cs t s ps t2 s2) (fun j e hj => by
    match j, hj with
    | 0, hj => cases hj; exact ⟨.cells cs t s false, by rw [heapL_get]; rfl, h.at_⟩
    | 1, hj => cases hj; exact ⟨.cells ps t2 s2 false, by rw [heapL_get]; rfl, h2.at_⟩
    | j + 2, hj => simp at hj)
  have ha : VRs (startE gl ++ [en, en2]) ⟨[sl 4 0 n n, sl 5 0 m m, .int .u8 a]⟩ #[v, v2, .int .u8 a] :=
    vrs_three (h.vr _ 4 rfl) (h2.vr _ 5 rfl) (VR.of_clean _ 7 _ rfl)
  have hm : m < 9223372036854775808 := by
    have h1 := h2.max
    unfold maxLen at h1
    omega
  obtain ⟨H', hs⟩ := books_true (t := t) (s := s) (t2 := t2) (s2 := s2) (ex := false) (e2 := false) (at8 := a) hat (rawQ_of h) (rawP_of h2) hm
  refine calls_args (H' := H') hw ha rfl ?_
  rw [heapA_len]
  exact hs
theorem heap0 {W : World} (hv : Laid Ha W) : (W.heap[0]?).isSome = true := by
  obtain ⟨_, _, _, _, _, fz, h⟩ := hv 1 (.cells pow10 287 1 true) rfl rfl
  have h1 := (Array.getElem?_eq_some_iff.1 h).1
  rw [Array.getElem?_eq_getElem (by omega)]; rfl
set_option maxRecDepth 100000 in
theorem contract (H : Type) (enc : TypeId × Value → H) (W : World) (base : Nat) (args : Array Value) (ds gs : List (DataW H)) (before : List MemPlace)
    (hval : ∀ (j : Nat) t v, Tryz.f12.params[j]? = some t → args[j]? = some v → Value.okWide Tryz.prog W .any base t v)
    (hW : DataW.Whole enc Tryz.prog Tryz.f12.params.toList Rows.marketBooksSpec.vars false W args.toList ds gs before) (hL : laidMetH Tryz.prog Rows.marketBooksRow.laid W) (hs : W.ShapedOpen Tryz.prog) :
    Calls Tryz.prog 12 args W fun e W' => ∃ v, e = .returned v ∧ Rows.marketBooksSpec.post enc Tryz.prog Tryz.f12 false true false false W args v W' := by
  have hW' := hW
  obtain ⟨p, q, hA0, hV, rfl, hfz, hnd⟩ := hW
  have hA : DataW.TrodAll enc Tryz.prog W 0 (fun _ => true) true Tryz.f12.params.toList args.toList ds p := hA0
  rw [Tryz.params12] at hA hval
  obtain ⟨v0, v1, v2, d0, d1, d2, p0, p1, p2, rfl, rfl, rfl, h0, h1, h2⟩ := trodAll_three hA
  obtain ⟨rfl, rfl⟩ := trodVars_none hV
  clear hA0
  have hlw := laid_world hs hL
  have hok1 := hval 0 74 v0 rfl rfl
  have hok1' : Cell.okWide Tryz.prog W .any base 74 v0 := by
    unfold Value.okWide at hok1
    rw [und74] at hok1
    exact hok1
  have hok2 := hval 1 75 v1 rfl rfl
  have hok2' : Cell.okWide Tryz.prog W .any base 75 v1 := by
    unfold Value.okWide at hok2
    rw [und75] at hok2
    exact hok2
  obtain ⟨f1, hf1⟩ := h0
  obtain ⟨f2, hf2⟩ := h1
  have hone1 : v0.cells.toList = [v0] := by obtain ⟨a, l, c, rfl⟩ := okWide_slice und74 hok1; rfl
  have hone2 : v1.cells.toList = [v1] := by obtain ⟨a, l, c, rfl⟩ := okWide_slice und75 hok2; rfl
  rw [hone1] at hf1
  rw [hone2] at hf2
  obtain ⟨cs, n, tt, ss, en, hsl⟩ := open_arg k5 6 und74 cells73 kinds73 (heap0 hlw) hok1' hf1
  obtain ⟨ps, m, tt2, ss2, en2, hsl2⟩ := open_arg k3 6 und75 cells24 kinds24 (heap0 hlw) hok2' hf2
  obtain ⟨e8, hv2, hat⟩ := okWide_u8 und5 (hval 2 5 v2 rfl rfl)
  have hlt := fun x hx => hW'.lt x hx
  subst hv2
  refine (law_calls hlw hat hsl hsl2).mono fun e W' ⟨he, hbl⟩ => ?_
  subst he
  refine ⟨_, rfl, post_of_below (pa := p0 ++ (p1 ++ p2)) (pv := []) hW' (fun _ _ _ => trodAll_mk1 (shut_bool und4 _)) (fun sp hsp => ?_) (fun _ _ => rfl) (by simp) hbl (ok_one (by kernel_rfl) rfl (okWide_bool_mk und4 _))⟩
  rw [Tryz.params12]
  exact trodAll_mk3 (stays laidOut read74 row74 ⟨f1, by rw [hone1]; exact hf1⟩ hbl (fun x hx => hlt x (by simp [hx])) (fun x hx => hsp x (by simp [hx])))
    (stays laidOut read75 row75 ⟨f2, by rw [hone2]; exact hf2⟩ hbl (fun x hx => hlt x (by simp [hx])) (fun x hx => hsp x (by simp [hx])))
    (stays laidOut read5 row5t h2 hbl (fun x hx => hlt x (by simp [hx])) (fun x hx => hsp x (by simp [hx])))
/-- A WORLD FOR THE WITNESS: the settled one, each table holding what its initialiser lays. -/
noncomputable def put1 (b : Nat) (l : List Value) (h : Array Obj) : Array Obj := h.modify b fun
  | .cells _ t frozen => .cells ⟨l⟩ t frozen
  | o => o
noncomputable def laidWorld (os : Os) : World :=
  { World.holding Tryz.prog os ⟨#[], #[], []⟩ with heap := put1 3 tab64 (put1 2 tab32 (put1 1 pow10 (World.holding Tryz.prog os ⟨#[], #[], []⟩).heap)) }
def wit : Array Value := #[.slice none 0 0, .slice none 0 0, .int .u8 0]
theorem laid_met (os : Os) : laidMet Tryz.prog Rows.marketBooksRow.laid ((laidWorld os).forCall (fun _ _ => 0) ⟨#[], wit, []⟩).memory :=
  laidMet_of_run' 8 (by kernel_rfl) (by kernel_rfl)
theorem reads (os : Os) {H : Type} (enc : TypeId × Value → H) : ∃ places, DataW.whole enc Tryz.prog ((laidWorld os).forCall (fun _ _ => 0) ⟨#[], wit, []⟩).memory Tryz.f12.params.toList Rows.marketBooksSpec.vars false wit.toList 8 =
    some ([.nil, .nil, .lit (.int .u8 0)], [], places) :=
  ⟨[], by kernel_rfl⟩
set_option maxRecDepth 100000 in
theorem lifted (os : Os) (started : os.Started) (H : Type) (enc : TypeId × Value → H) (F : Stop.Interp) :
    ReturnsInHanded {} Tryz.checked os 12 .any ((OpenSpec.ofChange Rows.marketBooksSpec).preRow enc Tryz.prog Tryz.f12 Rows.marketBooksRow.domain false Rows.marketBooksRow.laid) (((OpenSpec.ofChange Rows.marketBooksSpec).at F).post enc Tryz.prog Tryz.f12 false true false false) := by
  obtain ⟨places, hx⟩ := reads os enc
  refine returnsInHanded_of_row (C := Tryz.checked) (s := OpenSpec.ofChange Rows.marketBooksSpec) own started (by kernel_rfl) Tryz.func12
    (witness_row_at (enc := enc) (C := Tryz.checked) false (laidWorld os) wit rfl (by kernel_rfl) (by kernel_rfl) (by kernel_rfl)
      (OpenSpec.preRow_of_cond 8 hx (by kernel_rfl) (fun k hk => by cases hk) (by kernel_rfl) (laid_met os))) ?_
  intro W base args ds gs before hval hW _ _ _ hL hs _
  exact contract H enc W base args ds gs before hval hW hL hs
theorem said : Rows.MarketBooksSaid :=
  OpenClaim.holds_of_cond 12 Tryz.f12 rfl rfl rfl rfl rfl rfl rfl ⟨rfl, rfl, rfl, rfl, rfl⟩ rfl rfl rfl rfl rfl (by kernel_rfl) Tryz.func12 facts
    (of_decide_eq_true (by kernel_rfl)) (by unfold Func.isWrapper; first | (rw [if_pos (by decide +kernel)]; kernel_rfl) | (rw [if_neg (by decide +kernel)]; exact ⟨rfl, rfl⟩))
    (fun os started H enc _ F => by rw [OpenClaim.pre_eq_preRow]; exact lifted os started H enc F)
theorem plain (f : FuncId) (fn : Func) (hf : Tryz.pinned.checked.prog.funcNamed "nacelle/nacellelaw08.MarketBooks" = some f) (hfn : Tryz.pinned.checked.prog.funcs[f]? = some fn) :
    false = Tryz.pinned.checked.prog.looks [] ∧ ∀ (j : Nat) t, fn.params[j]? = some t → Tryz.pinned.checked.prog.wantsStandIn t = false := by
  obtain rfl : f = 12 := Option.some.inj ((show Tryz.prog.funcNamed "nacelle/nacellelaw08.MarketBooks" = some 12 by kernel_rfl).symm.trans hf) |>.symm
  obtain rfl : fn = Tryz.f12 := (Option.some.inj (Tryz.func12.symm.trans hfn)).symm
  refine ⟨by kernel_rfl, fun j t ht => ?_⟩
  rw [Tryz.params12] at ht
  have hm : t ∈ [74, 75, 5] := by simpa using Array.mem_of_getElem? ht
  have hall : ([74, 75, 5].all fun u => !Tryz.prog.wantsStandIn u) = true := by kernel_rfl
  exact (show Tryz.prog.wantsStandIn t = false by simpa using List.all_eq_true.1 hall t hm)
end Go.Proofs.YtafpmehhdcmllaaGreatDoor.Books
namespace Go.Proofs.YtafpmehhdcmllaaGreatDoor
/-- ████ THE CARD ████ -/
theorem books_card : Rows.MarketBooksCardSaid :=
  Claim7.holds_tied_plain_at .later [] _ _ _ _ Books.said (fun _ h => by cases h) (by kernel_rfl) (fun _ h => by cases h) marketBooks_row_tie rfl ⟨rfl, rfl⟩ (by kernel_rfl) rfl Books.plain (by kernel_rfl)
end Go.Proofs.YtafpmehhdcmllaaGreatDoor
