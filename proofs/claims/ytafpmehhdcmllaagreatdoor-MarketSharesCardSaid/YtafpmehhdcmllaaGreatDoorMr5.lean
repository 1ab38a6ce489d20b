/- slices.Sorted at what maps.Keys gives of a map with integer keys: the shelf's contracts, laid at this program. -/
import Derived.Test.YtafpmehhdcmllaaGreatDoorMr1
import Derived.Shelf.SlIterI.Nil
import Derived.Shelf.SortM.Plain
import Derived.Shelf.SortM.SortNone
import Derived.Test.YtafpmehhdcmllaaGreatDoorEngFast3
import Derived.Test.YtafpmehhdcmllaaGreatDoorMr3
noncomputable section
namespace Go.Proofs.YtafpmehhdcmllaaGreatDoor.Ways
open Go Go.Ex Go.RowKit Go.Maps Go.Sort Go.Shelf Go.Proofs
def keysL_ren : Go.Shelf.Ren := ⟨fun | 7 => 160 | 10 => 185 | n => n, fun | 23 => 222 | 26 => 3 | 3 => 64 | 28 => 226 | 0 => 0 | 27 => 225 | 33 => 251 | 4 => 4 | n => n, fun | n => n⟩
theorem keysL : SlLaysZI.n7 Tryz.prog keysL_ren where
  mixed := by kernel_rfl
  f7 := ⟨ "maps.Keys[map[int][]int,int,[]int]", by decide, Tryz.func160.trans (congrArg some (by kernel_rfl))⟩
  f10 := ⟨ "maps.Keys[map[int][]int,int,[]int]$1", by decide, Tryz.func185.trans (congrArg some (by kernel_rfl))⟩
  t0 := Tryz.underlying0
  a0 := Tryz.isAgg0
  z0 := Tryz.sizeOf0
  v0 := Tryz.zeroValue0
  t4 := Tryz.underlying4
  a4 := Tryz.isAgg4
  z4 := Tryz.sizeOf4
  v4 := Tryz.zeroValue4
  t23 := Tryz.underlying222
  a23 := Tryz.isAgg222
  z23 := Tryz.sizeOf222
  v23 := Tryz.zeroValue222
  t26 := Tryz.underlying3
  a26 := Tryz.isAgg3
  z26 := Tryz.sizeOf3
  v26 := Tryz.zeroValue3
  t27 := Tryz.underlying225
  a27 := Tryz.isAgg225
  z27 := Tryz.sizeOf225
  v27 := Tryz.zeroValue225
  t28 := Tryz.underlying226
  a28 := Tryz.isAgg226
  z28 := Tryz.sizeOf226
  v28 := Tryz.zeroValue226
  t33 := Tryz.underlying251
  a33 := Tryz.isAgg251
  z33 := Tryz.sizeOf251
  v33 := Tryz.zeroValue251
def sortedL_ren : Go.Shelf.Ren := ⟨fun | 6 => 159 | 8 => 184 | 9 => 140 | 11 => 208 | 13 => 175 | 12 => 174 | 23 => 203 | 24 => 204 | 14 => 194 | 15 => 195 | 16 => 196 | 17 => 197 | 18 => 198 | 19 => 199 | 20 => 200 | 21 => 201 | 22 => 202 | 25 => 212 | 26 => 213 | 27 => 214 | 28 => 215 | 29 => 216 | 30 => 207 | 31 => 222 | n => n, fun | 26 => 3 | 28 => 226 | 24 => 64 | 0 => 0 | 3 => 3 | 37 => 246 | 48 => 263 | 50 => 265 | 4 => 4 | 40 => 256 | 39 => 255 | 45 => 260 | 5 => 5 | 9 => 9 | 51 => 273 | 55 => 277 | 57 => 283 | 58 => 284 | 33 => 251 | n => n, fun | n => n⟩
theorem sortedL : SlLaysZI.n6 Tryz.prog sortedL_ren where
  mixed := by kernel_rfl
  f6 := ⟨ "slices.Sorted[int]", by decide, Tryz.func159.trans (congrArg some (by kernel_rfl))⟩
  f8 := ⟨ "slices.Collect[int]", by decide, Tryz.func184.trans (congrArg some (by kernel_rfl))⟩
  f11 := ⟨ "slices.AppendSeq[[]int,int]", by decide, Tryz.func208.trans (congrArg some (by kernel_rfl))⟩
  t0 := Tryz.underlying0
  a0 := Tryz.isAgg0
  z0 := Tryz.sizeOf0
  v0 := Tryz.zeroValue0
  t24 := Tryz.underlying64
  a24 := Tryz.isAgg64
  z24 := Tryz.sizeOf64
  v24 := Tryz.zeroValue64
  t26 := Tryz.underlying3
  a26 := Tryz.isAgg3
  z26 := Tryz.sizeOf3
  v26 := Tryz.zeroValue3
  t28 := Tryz.underlying226
  a28 := Tryz.isAgg226
  z28 := Tryz.sizeOf226
  v28 := Tryz.zeroValue226
  i26 := by kernel_rfl
def sortL_ren : Go.Shelf.Ren := ⟨fun | 5 => 140 | 8 => 175 | 7 => 174 | 19 => 203 | 20 => 204 | 10 => 194 | 11 => 195 | 12 => 196 | 13 => 197 | 14 => 198 | 15 => 199 | 16 => 200 | 17 => 201 | 18 => 202 | 30 => 212 | 31 => 213 | 32 => 214 | 33 => 215 | 34 => 216 | 35 => 207 | 40 => 222 | n => n, fun | 23 => 64 | 25 => 3 | 3 => 3 | 32 => 246 | 22 => 64 | 0 => 0 | 44 => 263 | 46 => 265 | 4 => 4 | 36 => 256 | 35 => 255 | 41 => 260 | 5 => 5 | 9 => 9 | 53 => 273 | 57 => 277 | 63 => 283 | 64 => 284 | n => n, fun | n => n⟩
theorem sortL : SlLaysM.n5 Tryz.prog sortL_ren where
  mixed := by kernel_rfl
  f5 := ⟨ "slices.Sort[[]int,int]", by decide, Tryz.func140.trans (congrArg some (by kernel_rfl))⟩
  f7 := ⟨ "slices.pdqsortOrdered[int]", by decide, Tryz.func174.trans (congrArg some (by kernel_rfl))⟩
  f8 := Tryz.func175.trans (congrArg some (by kernel_rfl))
  f10 := ⟨ "slices.insertionSortOrdered[int]", by decide, Tryz.func194.trans (congrArg some (by kernel_rfl))⟩
  f11 := ⟨ "slices.heapSortOrdered[int]", by decide, Tryz.func195.trans (congrArg some (by kernel_rfl))⟩
  f12 := ⟨ "slices.breakPatternsOrdered[int]", by decide, Tryz.func196.trans (congrArg some (by kernel_rfl))⟩
  f13 := ⟨ "slices.choosePivotOrdered[int]", by decide, Tryz.func197.trans (congrArg some (by kernel_rfl))⟩
  f14 := ⟨ "slices.reverseRangeOrdered[int]", by decide, Tryz.func198.trans (congrArg some (by kernel_rfl))⟩
  f15 := ⟨ "slices.partialInsertionSortOrdered[int]", by decide, Tryz.func199.trans (congrArg some (by kernel_rfl))⟩
  f16 := ⟨ "cmp.Less[int]", by decide, Tryz.func200.trans (congrArg some (by kernel_rfl))⟩
  f17 := ⟨ "slices.partitionEqualOrdered[int]", by decide, Tryz.func201.trans (congrArg some (by kernel_rfl))⟩
  f18 := ⟨ "slices.partitionOrdered[int]", by decide, Tryz.func202.trans (congrArg some (by kernel_rfl))⟩
  f19 := Tryz.func203.trans (congrArg some (by kernel_rfl))
  f20 := Tryz.func204.trans (congrArg some (by kernel_rfl))
  f30 := ⟨ "slices.siftDownOrdered[int]", by decide, Tryz.func212.trans (congrArg some (by kernel_rfl))⟩
  f31 := Tryz.func213.trans (congrArg some (by kernel_rfl))
  f32 := Tryz.func214.trans (congrArg some (by kernel_rfl))
  f33 := ⟨ "slices.medianAdjacentOrdered[int]", by decide, Tryz.func215.trans (congrArg some (by kernel_rfl))⟩
  f34 := ⟨ "slices.medianOrdered[int]", by decide, Tryz.func216.trans (congrArg some (by kernel_rfl))⟩
  f35 := ⟨ "cmp.isNaN[int]", by decide, Tryz.func207.trans (congrArg some (by kernel_rfl))⟩
  f40 := ⟨ "slices.order2Ordered[int]", by decide, Tryz.func222.trans (congrArg some (by kernel_rfl))⟩
  t0 := Tryz.underlying0
  a0 := Tryz.isAgg0
  z0 := Tryz.sizeOf0
  v0 := Tryz.zeroValue0
  t3 := Tryz.underlying3
  a3 := Tryz.isAgg3
  z3 := Tryz.sizeOf3
  v3 := Tryz.zeroValue3
  t4 := Tryz.underlying4
  a4 := Tryz.isAgg4
  z4 := Tryz.sizeOf4
  v4 := Tryz.zeroValue4
  t5 := Tryz.underlying5
  a5 := Tryz.isAgg5
  z5 := Tryz.sizeOf5
  v5 := Tryz.zeroValue5
  t9 := Tryz.underlying9
  a9 := Tryz.isAgg9
  z9 := Tryz.sizeOf9
  v9 := Tryz.zeroValue9
  t22 := Tryz.underlying64
  a22 := Tryz.isAgg64
  z22 := Tryz.sizeOf64
  v22 := Tryz.zeroValue64
  t23 := Tryz.underlying64
  a23 := Tryz.isAgg64
  z23 := Tryz.sizeOf64
  v23 := Tryz.zeroValue64
  t25 := Tryz.underlying3
  a25 := Tryz.isAgg3
  z25 := Tryz.sizeOf3
  v25 := Tryz.zeroValue3
  t32 := Tryz.underlying246
  a32 := Tryz.isAgg246
  z32 := Tryz.sizeOf246
  v32 := Tryz.zeroValue246
  t35 := Tryz.underlying255
  a35 := Tryz.isAgg255
  z35 := Tryz.sizeOf255
  v35 := Tryz.zeroValue255
  t36 := Tryz.underlying256
  a36 := Tryz.isAgg256
  z36 := Tryz.sizeOf256
  v36 := Tryz.zeroValue256
  t41 := Tryz.underlying260
  a41 := Tryz.isAgg260
  z41 := Tryz.sizeOf260
  v41 := Tryz.zeroValue260
  t44 := Tryz.underlying263
  a44 := Tryz.isAgg263
  z44 := Tryz.sizeOf263
  v44 := Tryz.zeroValue263
  t46 := Tryz.underlying265
  a46 := Tryz.isAgg265
  z46 := Tryz.sizeOf265
  v46 := Tryz.zeroValue265
  t53 := Tryz.underlying273
  a53 := Tryz.isAgg273
  z53 := Tryz.sizeOf273
  v53 := Tryz.zeroValue273
  t57 := Tryz.underlying277
  a57 := Tryz.isAgg277
  z57 := Tryz.sizeOf277
  v57 := Tryz.zeroValue277
  t63 := Tryz.underlying283
  a63 := Tryz.isAgg283
  z63 := Tryz.sizeOf283
  v63 := Tryz.zeroValue283
  t64 := Tryz.underlying284
  a64 := Tryz.isAgg284
  z64 := Tryz.sizeOf284
  v64 := Tryz.zeroValue284

theorem sortsL (m : Nat) : AnyZI.SortsIn Tryz.prog sortedL_ren Fence.wide m :=
  ⟨fun blk off cap ss W hH hblk hsz => callsIn_wide.2 (AnyM.slices_Sort_int sortL blk off cap ss W hH hblk hsz),
   fun p cap W => callsIn_wide.2 (AnyM.slices_Sort_int_none sortL p cap W)⟩
set_option maxHeartbeats 1000000 in
theorem sortC : SortC Tryz.prog 159 185 3 3 := by
  intro w Bm b nn D0 R hcell hown hsz
  have hBm : Bm < w.heap.size := by
    unfold World.cell? at hcell
    cases hh : w.heap[Bm]? with
    | none => rw [hh] at hcell; cases hcell
    | some o => exact (Array.getElem?_eq_some_iff.1 hh).1
  have hseq : SeqGives Fence.wide 2 Tryz.prog 185 #[.pointer (some ⟨Bm, 0, none⟩)] encZ (fun ss => ss.Perm (intKeys D0)) (Maps.size D0) w :=
    AnyZI.keys_gives (ρ := keysL_ren) { keysL with } Fence.wide _ trivial rfl (by omega) Bm b nn D0 w hBm hcell hown
  have hmx : (1000000 : Nat) ≤ maxLen := by decide
  have cS := AnyZI.sorted_in sortedL Fence.wide 5 trivial trivial trivial trivial rfl (by omega) (sortsL _) (enters_of Tryz.func140 (by kernel_rfl) rfl) 185 #[.pointer (some ⟨Bm, 0, none⟩)] trivial (enters_of Tryz.func185 (by kernel_rfl) rfl) _ _ (by omega) (by omega) w hseq
  exact callsIn_wide.1 cS
noncomputable def Tk : Tb := ext noT 159 (keysE 185 3)
theorem tsk {G : Nat} : TSound Tryz.prog G Tk := TSound.none.keys Tryz.underlying3 sortC
end Go.Proofs.YtafpmehhdcmllaaGreatDoor.Ways
set_option maxRecDepth 10000
noncomputable section
namespace Go.Proofs.YtafpmehhdcmllaaGreatDoor.Ways
open Go Go.Ex Go.RowKit
noncomputable def pow10 : List Value := [.int .u64 (1), .int .u64 (10), .int .u64 (100), .int .u64 (1000), .int .u64 (10000), .int .u64 (100000), .int .u64 (1000000), .int .u64 (10000000), .int .u64 (100000000), .int .u64 (1000000000), .int .u64 (10000000000), .int .u64 (100000000000), .int .u64 (1000000000000), .int .u64 (10000000000000), .int .u64 (100000000000000), .int .u64 (1000000000000000), .int .u64 (10000000000000000), .int .u64 (100000000000000000), .int .u64 (1000000000000000000), .int .u64 (10000000000000000000)]
noncomputable def tab32 : List Value := [.int .u8 (0), .int .u8 (1), .int .u8 (28), .int .u8 (2), .int .u8 (29), .int .u8 (14), .int .u8 (24), .int .u8 (3), .int .u8 (30), .int .u8 (22), .int .u8 (20), .int .u8 (15), .int .u8 (25), .int .u8 (17), .int .u8 (4), .int .u8 (8), .int .u8 (31), .int .u8 (27), .int .u8 (13), .int .u8 (23), .int .u8 (21), .int .u8 (19), .int .u8 (16), .int .u8 (7), .int .u8 (26), .int .u8 (12), .int .u8 (18), .int .u8 (6), .int .u8 (11), .int .u8 (5), .int .u8 (10), .int .u8 (9)]
noncomputable def tab64 : List Value := [.int .u8 (0), .int .u8 (1), .int .u8 (56), .int .u8 (2), .int .u8 (57), .int .u8 (49), .int .u8 (28), .int .u8 (3), .int .u8 (61), .int .u8 (58), .int .u8 (42), .int .u8 (50), .int .u8 (38), .int .u8 (29), .int .u8 (17), .int .u8 (4), .int .u8 (62), .int .u8 (47), .int .u8 (59), .int .u8 (36), .int .u8 (45), .int .u8 (43), .int .u8 (51), .int .u8 (22), .int .u8 (53), .int .u8 (39), .int .u8 (33), .int .u8 (30), .int .u8 (24), .int .u8 (18), .int .u8 (12), .int .u8 (5), .int .u8 (63), .int .u8 (55), .int .u8 (48), .int .u8 (27), .int .u8 (60), .int .u8 (41), .int .u8 (37), .int .u8 (16), .int .u8 (46), .int .u8 (35), .int .u8 (44), .int .u8 (21), .int .u8 (52), .int .u8 (32), .int .u8 (23), .int .u8 (11), .int .u8 (54), .int .u8 (26), .int .u8 (40), .int .u8 (15), .int .u8 (34), .int .u8 (20), .int .u8 (31), .int .u8 (10), .int .u8 (25), .int .u8 (14), .int .u8 (19), .int .u8 (9), .int .u8 (13), .int .u8 (8), .int .u8 (7), .int .u8 (6)]
noncomputable def Ha : CH := (((Hp.nil.push .dead).push (.cells pow10 287 1 true)).push (.cells tab32 289 1 true)).push (.cells tab64 290 1 true)
theorem ha_len : Ha.length = 4 := rfl
noncomputable def oAw : Out QRes := execO Tryz.prog 4 ⟨Tk, no_, off_, noL⟩ 300 (.call 16 #[] Ha)
theorem aw_vals : oAw.vals = .leaf (b_ true) := by kernel_rfl
theorem aw_fix : oAw = oAw.fix := by kernel_rfl
end Go.Proofs.YtafpmehhdcmllaaGreatDoor.Ways
noncomputable section
namespace Go.Proofs.YtafpmehhdcmllaaGreatDoor.Ways
open Go Go.Ex Go.RowKit
/-! ### the law's table: g: quarters and prices have no error; zl, zp: there is no quarter, no price -/
noncomputable def hA : List CO := [.dead, .cells pow10 287 1 true, .cells tab32 289 1 true, .cells tab64 290 1 true]
theorem ha_heapL : heapL hA = Ha := by kernel_rfl
theorem ha_get {b : Nat} {o : CO} (h : Ha[b]? = some o) : (b = 0 ∧ o = .dead) ∨ (b = 1 ∧ o = .cells pow10 287 1 true) ∨ (b = 2 ∧ o = .cells tab32 289 1 true) ∨ (b = 3 ∧ o = .cells tab64 290 1 true) := by
  have hb : b < 4 := Hp.lt h
  match b, hb with
  | 0, _ => exact .inl ⟨rfl, Option.some.inj (h.symm.trans (rfl : Ha[0]? = some .dead))⟩
  | 1, _ => exact .inr (.inl ⟨rfl, Option.some.inj (h.symm.trans (rfl : Ha[1]? = some (.cells pow10 287 1 true)))⟩)
  | 2, _ => exact .inr (.inr (.inl ⟨rfl, Option.some.inj (h.symm.trans (rfl : Ha[2]? = some (.cells tab32 289 1 true)))⟩))
  | 3, _ => exact .inr (.inr (.inr ⟨rfl, Option.some.inj (h.symm.trans (rfl : Ha[3]? = some (.cells tab64 290 1 true)))⟩))
theorem clean1 : pow10.all (clean 6) = true := by kernel_rfl
theorem clean2 : tab32.all (clean 6) = true := by kernel_rfl
theorem clean3 : tab64.all (clean 6) = true := by kernel_rfl
theorem ha_vars : Vars Ha [1, 2, 3] := by
  refine ⟨ha_len, fun b o h ha => ?_, fun b o h ha => ?_⟩
  · rcases ha_get h with ⟨rfl, rfl⟩ | ⟨rfl, _⟩ | ⟨rfl, _⟩ | ⟨rfl, _⟩
    · cases ha
    · simp
    · simp
    · simp
  · rcases ha_get h with ⟨rfl, rfl⟩ | ⟨_, rfl⟩ | ⟨_, rfl⟩ | ⟨_, rfl⟩
    · cases ha
    · exact ⟨pow10, 287, 1, rfl, clean1⟩
    · exact ⟨tab32, 289, 1, rfl, clean2⟩
    · exact ⟨tab64, 290, 1, rfl, clean3⟩
theorem p16 : Pure Tryz.prog Ha 16 [] (b_ true) := by
  obtain ⟨H', h'⟩ := Out.vals_sel (o := oAw) aw_fix (v := b_ true) (by rw [aw_vals]; rfl)
  exact Pure.of_sound (by decide) ha_len rfl (execO_sound (C := ⟨Tk, no_, off_, noL⟩) tsk .none 300 _ _ h')
def s16 : List Value → Option Value
  | [] => some (b_ true)
  | _ => none
def sp51g (g : Bool) : ESpec := fun al css => match al, css with
  | [.slice (some ⟨4, 0, none⟩) n c, .slice (some ⟨5, 0, none⟩) m c2], [cs, ps] => cond g (some (ok2 cs ps n c m c2 ∧ csE cs ps n m = 0, i 0)) (some (NoE cs ps n c m c2, i (csE cs ps n m)))
  | _, _ => none
theorem c51g (g : Bool) : ∀ al css os p v, sp51g g al css = some (p, v) → p → Blks css os → (∀ cs ∈ css, cs.all Ex.flat = true) ∧ clean 6 v = true ∧ ∃ H', Sound Tryz.prog (gl + css.length) (.call 51 ⟨al⟩ (heapL (deads ++ os))) (.val v H') := by
  intro al css os p v hs hp hb
  unfold sp51g at hs
  split at hs
  case h_2 => cases hs
  rename_i n c m c2 cs ps
  have key : ok2 cs ps n c m c2 → (∀ x ∈ [cs, ps], x.all Ex.flat = true) ∧ clean 6 (i (csE cs ps n m)) = true ∧ ∃ H', Sound Tryz.prog (gl + [cs, ps].length) (.call 51 ⟨[sl 4 0 n c, sl 5 0 m c2]⟩ (heapL (deads ++ os))) (.val (i (csE cs ps n m)) H') := fun h =>
    c51 [sl 4 0 n c, sl 5 0 m c2] [cs, ps] os (ok2 cs ps n c m c2) (i (csE cs ps n m)) rfl h hb
  cases g with
  | true => cases hs; have h := key hp.1; rwa [hp.2] at h
  | false => cases hs; exact key hp.1
noncomputable def TB (g zl zp : Bool) : Tb := ext (ext (ext (ext (ext (ext (ext (ext (ext (ext (T9 g) 45 (pureE s45 [] Hd)) 47 (newE (spC k5 5 77 zl) [] (heapL deads))) 48 (newE (spC k3 3 31 zp) [] (heapL deads))) 57 (newE (spC k2 2 177 zl) [] (heapL deads))) 53 (newE (sp53 zl) [] (heapL deads)))
  54 (autoE sp54 [] (heapL deads))) 56 (autoE sp56 [] (heapL deads))) 49 (autoE (sp49 g) [] (heapL deads))) 51 (autoE (sp51g g) [] (heapL deads))) 16 (pureE s16 [1, 2, 3] Ha)
theorem tsB {G : Nat} (g zl zp : Bool) : TSound Tryz.prog G (TB g zl zp) := by
  have h45 : TSound Tryz.prog G (ext (T9 g) 45 (pureE s45 [] Hd)) := (ts9 g).pure hd_vars fun args v h => by
    unfold s45 at h
    split at h
    · cases h; exact p45 _ _ _ _ _ _ _ _
    · cases h
  refine TSound.pure ha_vars (((((((((h45.new (f' := 47) (c47 zl)).new (f' := 48) (c48 zp)).new (f' := 57) (c57 zl)).new (f' := 53) (c53 zl)).auto c54).auto c56).auto (c49 g)).auto (c51g g))) fun args v h => ?_
  unfold s16 at h
  split at h
  · cases h; exact p16
  · cases h
end Go.Proofs.YtafpmehhdcmllaaGreatDoor.Ways
