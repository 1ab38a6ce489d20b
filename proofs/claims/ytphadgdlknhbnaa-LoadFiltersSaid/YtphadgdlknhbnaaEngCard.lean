/- Part of the proof. -/
import Derived.Test.YtphadgdlknhbnaaEngArg
import Derived.ProofKit
import Derived.OpenShut
import Derived.Deep.DeepHandedRow
import Derived.Lib.SmallJoins
import Derived.WideKeyArgs
noncomputable section
namespace Go.Ex
open Go.RowKit Go.ChangeShapes Go.WideShapes Go.ChangeAt
section
variable {H : Type} {enc : TypeId × Value → H} {P : Program}
theorem post_of_below {f : Func} {s : ChangeSpec} {apart fresh handsOn again : Bool} {W W' : World} {args : Array Value} {v : Value} {ds gs : List (DataW H)} {before pa pv : List MemPlace}
    (hW : DataW.Whole enc P f.params.toList s.vars apart W args.toList ds gs before)
    (hres : ∀ (b : Nat) (sp : Nat → Bool) (hd : Bool), DataW.TrodAll enc P W' b sp hd f.resultTypes.toList (v.resultList f.resultTypes.size) (s.fn H (ds ++ gs)).results [])
    (hargs : ∀ sp : Nat → Bool, (∀ p ∈ before, sp p.block = true) → DataW.TrodAll enc P W' 0 sp true f.params.toList args.toList (s.fn H (ds ++ gs)).args pa)
    (hvars : ∀ sp : Nat → Bool, (∀ p ∈ before, sp p.block = true) → DataW.TrodVars enc P W' sp s.vars (s.fn H (ds ++ gs)).vars pv)
    (hps : before = pa ++ pv) (hb : Below W.heap.size W W')
    (hok : ∀ (j : Nat) (t : TypeId) (r : Value), f.resultTypes[j]? = some t → (v.resultList f.resultTypes.size)[j]? = some r → Value.okWide P W' .any 0 t r) :
    s.post enc P f apart fresh handsOn again W args v W' := by
  have hlt : ∀ p ∈ before, p.block < W.heap.size := fun p hp => hW.lt p hp
  have hold : ∀ p ∈ before, (fun b => decide (b < W.heap.size)) p.block = true := fun p hp => by simpa using hlt p hp
  refine ⟨ds, gs, before, [], pa, pv, hW, hres _ _ _, hargs _ hold, hvars _ hold, World.keptBut_mono (fun p hp => ⟨hp, ?_⟩) (hb.frame (· ∈ before)), fun _ => ?_⟩
  · rw [hps, List.mem_append] at hp
    exact Or.inr hp
  · obtain ⟨_, _, _, _, _, hz, hn⟩ := hW
    refine ⟨hok, _, _, ([] ++ pa) ++ pv, ⟨[] ++ pa, pv, trodAll_append (hargs _ (fun _ _ => rfl)) (hres _ _ _), hvars _ (fun _ _ => rfl), rfl, ?_, ?_⟩, ?_⟩
    · intro b off hp
      have hin : MemPlace.cell b off ∈ before := by rw [hps]; simpa using hp
      rw [hb.frozen (hlt _ hin)]
      exact hz b off hin
    · intro ha
      have := hn ha
      rw [hps] at this
      simpa using this
    · intro p hp _
      rw [hps]
      simpa using hp
theorem stays {t : TypeId} (hl : laidOutB P = true) (hr : P.readableRec t = true) (hrow : t < P.types.size) {W W' : World} {v : Value} {d : DataW H} {ps : List MemPlace} (h : DataW.Trod enc P W 0 (fun _ => true) true t v d ps) (hb : Below W.heap.size W W') (hlt : ∀ x ∈ ps, x.block < W.heap.size)
    {sp : Nat → Bool} (hs : ∀ p ∈ ps, sp p.block = true) : DataW.Trod enc P W' 0 sp true t v d ps :=
  WideElems.Trod_stays hl hr hrow h (fun x hx => hb.same (hlt x hx)) hs
theorem cells_self {cs : List Value} : ∀ (ks : List CK) (off : Nat), areCells ks cs off = true → cs.length = off + ks.length → cs.drop off = cellsAt ks cs off
  | [], off, _, hl => by
    rw [List.drop_eq_nil_of_le (by simp at hl; omega)]; rfl
  | k :: r, off, h, hl => by
    unfold areCells at h
    rw [Bool.and_eq_true] at h
    have hlt : off < cs.length := by rw [hl]; simp
    have h1 := cellAt_eq h.1
    rw [List.drop_eq_getElem_cons hlt]
    show _ = cellAt k cs[off]? :: cellsAt r cs (off + 1)
    rw [cells_self r (off + 1) h.2 (by rw [hl]; simp; omega)]
    congr 1
    rw [List.getElem?_eq_getElem hlt] at h1 ⊢
    exact Option.some.inj h1
theorem open_flat {W : World} {r : Reach} {b0 : Nat} {t : TypeId} {v : Value} {d : DataW H} {p : List MemPlace} (ks : List CK) (m : Nat) (hagg : aggB P t = some true) (hc : P.cellsOf t = ks.length) (hk : kindsOkB P m t ks = true) (hok : Value.okWide P W r b0 t v)
    (h : DataW.Trod enc P W 0 (fun _ => true) true t v d p) : ∃ cs : List Value, v = .agg ⟨cellsAt ks cs 0⟩ ∧ areCells ks cs 0 = true ∧ ∀ i : Nat, wfCell cs[i]? := by
  have hv : ∃ cs, v = .agg cs ∧ cs.size = P.cellsOf t := by
    unfold aggB at hagg
    unfold Value.okWide at hok
    split at hok
    · obtain ⟨cs, h1, h2, _⟩ := hok; exact ⟨cs, h1, h2⟩
    · obtain ⟨cs, h1, h2, _⟩ := hok; exact ⟨cs, h1, h2⟩
    · rename_i hn1 hn2
      exfalso
      cases hu : P.underlying t with
      | none => rw [hu] at hagg; cases hagg
      | some dd =>
        rw [hu] at hagg
        cases dd <;> first
          | (exact hn1 _ hu)
          | (exact hn2 _ _ hu)
          | (cases hagg)
  obtain ⟨cs, rfl, hsz⟩ := hv
  obtain ⟨fuel, hf⟩ := h
  have hkind : ∀ (i : Nat) (k : CK), ks[i]? = some k → isCellB k cs.toList[i]? = true ∧ wfCell cs.toList[i]? := fun i k hki => trod_kind m t i k (kindsOkB_eq hk hki) fuel _ _ hf
  have har : areCells ks cs.toList 0 = true := areCells_of ks 0 fun i k hki => by rw [Nat.zero_add]; exact (hkind i k hki).1
  refine ⟨cs.toList, ?_, har, ?_⟩
  · have := cells_self ks 0 har (by simp [hsz, hc])
    rw [List.drop_zero] at this
    rw [← this]
  · intro i
    by_cases hi : i < ks.length
    · exact (hkind i _ (List.getElem?_eq_getElem hi)).2
    · intro k m hh
      rw [List.getElem?_eq_none (by simp [hsz, hc]; omega)] at hh
      cases hh
end
end Go.Ex
