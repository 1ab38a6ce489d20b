/- Engine, part 47: slices.Sorted(maps.Keys(m)) at a map that is known whose keys are integers: by a contract of the called function in any world. -/
import Derived.Test.YtafpmehhdcmllaaGreatDoorEngPure
import Derived.Lib.SlKeysI
noncomputable section
namespace Go.Ex
open Go.RowKit Go.WideElems Go.MapKept
theorem fw_of_calls {P : Program} {f : FuncId} {args : Array Value} {w : World} {R : Ending → World → Prop} (ro : Option Nat) (n : Nat) (h : Calls P f args w R) : CallsIn (FW ro) n P f args w R := by
  have h2 := (callsIn_wide (n := n)).2 h
  exact ⟨trivial, fun cs hr => h2.2 cs (room_wide _)⟩
/-- the contract: the function fS, called with the iterator g over a box that holds a map -/
def SortC (P : Program) (fS g : FuncId) (tK tE : TypeId) : Prop :=
  ∀ (w : World) (Bm b nn : Nat) (D0 : DataW Unit) (R : Value → Option (DataW Unit × List MemPlace)), w.cell? ⟨Bm, 0, none⟩ = some (.map (some b)) → w.ownsMap P tK R b nn D0 → Maps.size D0 ≤ 1000000 →
    Calls P fS #[.func (.func g) #[] #[.pointer (some ⟨Bm, 0, none⟩)]] w fun e w' => ∃ (v : Value) (ss : List Int), e = .returned v ∧ ss.Perm (intKeys D0) ∧ w'.ownsRow w.heap.size tE 1 v ss.length ((ss.mergeSort leI).map encZ) ∧ (v = .slice none 0 0 ↔ ss = []) ∧ Below w.heap.size w w'
def keyI (m : MapEntry) : Int :=
  match m.key with
  | .int .i64 x => x
  | _ => 0
def okKey (clock : Nat) (m : MapEntry) : Bool :=
  match m.key with
  | .int .i64 x => decide ((Lit.int .i64 x).wf = true) && Nat.blt m.born clock
  | _ => false
def apartB : List MapEntry → Bool
  | [] => true
  | m :: r => (r.all fun x => !decide (keyI m = keyI x) && !Nat.beq m.born x.born) && apartB r
def insI (x : Int) : List Int → List Int
  | [] => [x]
  | y :: r => if x ≤ y then x :: y :: r else y :: insI x r
def isortI : List Int → List Int
  | [] => []
  | x :: r => insI x (isortI r)
theorem insI_perm (x : Int) : ∀ l : List Int, (insI x l).Perm (x :: l)
  | [] => .refl _
  | y :: r => by
    unfold insI
    split
    · exact .refl _
    · exact ((insI_perm x r).cons y).trans (.swap x y r)
theorem isortI_perm : ∀ l : List Int, (isortI l).Perm l
  | [] => .refl _
  | x :: r => (insI_perm x _).trans ((isortI_perm r).cons x)
theorem insI_sorted (x : Int) : ∀ l : List Int, l.Pairwise (fun a b => leI a b = true) → (insI x l).Pairwise (fun a b => leI a b = true)
  | [], _ => List.pairwise_singleton _ _
  | y :: r, h => by
    obtain ⟨h1, h2⟩ := List.pairwise_cons.1 h
    unfold insI
    split
    · rename_i hxy
      refine List.pairwise_cons.2 ⟨fun z hz => ?_, h⟩
      rcases List.mem_cons.1 hz with rfl | hz
      · simpa [leI] using hxy
      · have := h1 z hz
        simp only [leI, decide_eq_true_eq] at this ⊢
        omega
    · rename_i hxy
      refine List.pairwise_cons.2 ⟨fun z hz => ?_, insI_sorted x r h2⟩
      rcases List.mem_cons.1 ((insI_perm x r).mem_iff.1 hz) with rfl | hz
      · simp only [leI, decide_eq_true_eq]; omega
      · exact h1 z hz
theorem isortI_sorted : ∀ l : List Int, (isortI l).Pairwise (fun a b => leI a b = true)
  | [] => List.Pairwise.nil
  | x :: r => insI_sorted x _ (isortI_sorted r)
theorem isortI_eq {l l' : List Int} (h : l.Perm l') : l.mergeSort leI = isortI l' := by
  have tr : ∀ a b c : Int, leI a b = true → leI b c = true → leI a c = true := fun a b c h1 h2 => by simp only [leI, decide_eq_true_eq] at *; omega
  have to : ∀ a b : Int, (leI a b || leI b a) = true := fun a b => by simp only [leI, Bool.or_eq_true, decide_eq_true_eq]; omega
  refine List.Perm.eq_of_pairwise (le := fun a b => leI a b = true) (fun a b _ _ h1 h2 => ?_) (List.pairwise_mergeSort tr to l) (isortI_sorted l') (((List.mergeSort_perm l leI).trans h).trans (isortI_perm l').symm)
  simp only [leI, decide_eq_true_eq] at h1 h2
  omega
def rK (_ : Value) : Option (DataW Unit × List MemPlace) := some (.nil, [])
theorem okKey_key {clock : Nat} {m : MapEntry} (h : okKey clock m = true) : m.key = .int .i64 (keyI m) ∧ (Lit.int .i64 (keyI m)).wf = true ∧ m.born < clock := by
  unfold okKey at h
  unfold keyI
  split at h
  · rename_i x hx
    rw [Bool.and_eq_true, decide_eq_true_eq] at h
    rw [hx]
    exact ⟨rfl, h.1, Nat.le_of_ble_eq_true h.2⟩
  · cases h
theorem apartB_pw : ∀ {l : List MapEntry}, apartB l = true → l.Pairwise fun x y => keyI x ≠ keyI y ∧ x.born ≠ y.born
  | [], _ => .nil
  | m :: r, h => by
    unfold apartB at h
    rw [Bool.and_eq_true] at h
    refine .cons (fun x hx => ?_) (apartB_pw h.2)
    have := List.all_eq_true.1 h.1 x hx
    simp only [Bool.and_eq_true, Bool.not_eq_true', decide_eq_false_iff_not] at this
    refine ⟨this.1, fun hb => ?_⟩
    rw [hb, Nat.beq_refl] at this
    cases this.2
/-- the real entries have the same keys, born alike -/
structure SameKeys (es : List MapEntry) (es' : Array MapEntry) : Prop where
  size : es.length = es'.size
  at_ : ∀ (i : Nat) (m : MapEntry), es[i]? = some m → ∃ m', es'[i]? = some m' ∧ m'.key = m.key ∧ m'.born = m.born
theorem SameKeys.maps {es : List MapEntry} {es' : Array MapEntry} (h : SameKeys es es') : es'.toList.map (fun m => (m.key, m.born)) = es.map fun m => (m.key, m.born) := by
  refine List.ext_getElem? fun i => ?_
  rw [List.getElem?_map, List.getElem?_map]
  cases hm : es[i]? with
  | none =>
    have : es'.toList[i]? = none := by
      rw [List.getElem?_eq_none_iff] at hm ⊢
      have := h.size
      simpa using (by omega : es'.size ≤ i)
    rw [this]
  | some m =>
    obtain ⟨m', h1, h2, h3⟩ := h.at_ i m hm
    have : es'.toList[i]? = some m' := by simpa using h1
    rw [this]
    show some (m'.key, m'.born) = some (m.key, m.born)
    rw [h2, h3]
theorem foldr_ins_perm {H : Type} : ∀ l : List (Lit × DataW H), (l.foldr DataW.insert []).Perm l
  | [] => .refl _
  | x :: r => by
    have key : ∀ (x : Lit × DataW H) (l : List (Lit × DataW H)), (DataW.insert x l).Perm (x :: l) := by
      intro x l
      induction l with
      | nil => exact .refl _
      | cons y r ih =>
        unfold DataW.insert
        split
        · exact .refl _
        · exact (ih.cons y).trans (.swap x y r)
    exact (key x _).trans ((foldr_ins_perm r).cons x)
theorem owns_of {P : Program} {tK : TypeId} {w : World} {b clock : Nat} {es : List MapEntry} {es' : Array MapEntry} (hk : P.underlying tK = some (.int .i64)) (hb : w.heap[b]? = some (.map es' clock)) (hs : SameKeys es es') (hok : es.all (okKey clock) = true) (hap : apartB es = true) (hn : es.length ≤ 1000000) :
    ∃ D0 : DataW Unit, w.ownsMap P tK rK b es.length D0 ∧ Maps.size D0 = es.length ∧ (intKeys D0).Perm (es.map keyI) := by
  have hmaps := hs.maps
  have hkey : ∀ x ∈ es'.toList, x.key = .int .i64 (keyI x) ∧ (Lit.int .i64 (keyI x)).wf = true ∧ x.born < clock := by
    intro x hx
    obtain ⟨i, hi⟩ := List.getElem?_of_mem hx
    have h1 := congrArg (fun l => l[i]?) hmaps
    simp only [List.getElem?_map, hi, Option.map_some] at h1
    cases hm : es[i]? with
    | none => rw [hm] at h1; cases h1
    | some m =>
      rw [hm] at h1
      simp only [Option.map_some, Option.some.injEq, Prod.mk.injEq] at h1
      obtain ⟨g1, g2, g3⟩ := okKey_key (List.all_eq_true.1 hok m (List.mem_of_getElem? hm))
      have hk2 : keyI x = keyI m := by unfold keyI; rw [h1.1]
      exact ⟨by rw [h1.1, g1, hk2], by rw [hk2]; exact g2, by rw [h1.2]; exact g3⟩
  have hrd : ∀ x ∈ es'.toList, rd P tK rK x = some (Lit.int .i64 (keyI x), .nil) := by
    intro x hx
    obtain ⟨h1, h2, _⟩ := hkey x hx
    unfold rd
    rw [h1, Maps.keyOf_int_mk hk h2]
    rfl
  have hrg : es'.toList.map (rg P tK rK) = es'.toList.map fun x => (Lit.int .i64 (keyI x), (.nil : DataW Unit)) := by
    refine List.map_congr_left fun x hx => ?_
    exact rg_of (hrd x hx)
  have hsz : es'.size = es.length := hs.size.symm
  have hki : es'.toList.map keyI = es.map keyI := by
    have h1 := congrArg (fun l => l.map fun (p : Value × Nat) => keyI ⟨p.1, .nilFunc, 0⟩) hmaps
    simp only [List.map_map] at h1
    exact h1
  have hpw := apartB_pw hap
  have hborn : es'.toList.map (·.born) = es.map (·.born) := by
    have h1 := congrArg (fun l => l.map fun (p : Value × Nat) => p.2) hmaps
    simp only [List.map_map] at h1
    exact h1
  have hkeys : es'.toList.map (·.key) = es.map (·.key) := by
    have h1 := congrArg (fun l => l.map fun (p : Value × Nat) => p.1) hmaps
    simp only [List.map_map] at h1
    exact h1
  refine ⟨.map ((es'.toList.map (rg P tK rK)).foldr DataW.insert []), ⟨es', clock, hb, ⟨?_, ⟨fun x hx => (hkey x hx).2.2, ?_, ?_⟩, fun x hx => ⟨_, hrd x hx⟩⟩, by omega, rfl⟩, ?_, ?_⟩
  · rw [hsz]
    have : (1000000 : Nat) ≤ maxLen := by decide
    omega
  · rw [hborn]
    exact List.pairwise_map.2 (hpw.imp fun h => h.2)
  · rw [hkeys]
    refine List.pairwise_map.2 (hpw.imp_of_mem fun {x y} hx hy h he => h.1 ?_)
    unfold keyI
    rw [he]
  · show ((es'.toList.map (rg P tK rK)).foldr DataW.insert []).length = _
    rw [(foldr_ins_perm _).length_eq]
    simp [hsz]
  · show (((es'.toList.map (rg P tK rK)).foldr DataW.insert []).map fun p => intOf p.1).Perm _
    refine ((foldr_ins_perm _).map _).trans ?_
    rw [hrg, List.map_map]
    have : (fun p : Lit × DataW Unit => intOf p.1) ∘ (fun x : MapEntry => (Lit.int .i64 (keyI x), (.nil : DataW Unit))) = keyI := rfl
    rw [this, hki]
/-- the entry -/
def keysG (tE : TypeId) (H : CH) (es : List MapEntry) : Option (Option Bool × Value × CH × List (Option CO × Option CO)) :=
  some (none, .slice (some ⟨H.length, 0, none⟩) es.length es.length, H.push (.cells ((isortI (es.map keyI)).map (.int .i64)) tE 1 false), [])
noncomputable def keysE (g : FuncId) (tE : TypeId) : Ent := fun args H =>
  match args with
  | [.func (.func g') ⟨[]⟩ ⟨[.pointer (some ⟨bb, 0, none⟩)]⟩] => match H[bb]? with
    | some (.cells [.map (some mb)] _ _ true) => match H[mb]? with
      | some (.map (m :: es) clock) => cond (Nat.beq g' g && ((m :: es).all (okKey clock) && (apartB (m :: es) && Nat.ble (m :: es).length 1000000))) (keysG tE H (m :: es)) none
      | _ => none
    | _ => none
  | _ => none
theorem keys_ok {P : Program} {G : Nat} {fS g : FuncId} {tK tE : TypeId} (hk : P.underlying tK = some (.int .i64)) (hc : SortC P fS g tK tE) :
    ∀ args H c v H' l, keysE g tE args H = some (c, v, H', l) → c.getD true = true → Same l → Sound P G (.call fS ⟨args⟩ H) (.val v H') := by
  intro args H c v H' l he _ _
  unfold keysE at he
  split at he
  case h_2 => cases he
  rename_i g' bb
  split at he
  case h_2 => cases he
  rename_i mb t s hbb
  split at he
  case h_2 => cases he
  rename_i m es clock hmb
  cases hcond : (Nat.beq g' g && ((m :: es).all (okKey clock) && (apartB (m :: es) && Nat.ble (m :: es).length 1000000))) with
  | false => rw [hcond] at he; cases he
  | true =>
    rw [hcond] at he
    simp only [Bool.and_eq_true] at hcond
    obtain ⟨c1, c2, c3, c4⟩ := hcond
    have hg := Nat.eq_of_beq_eq_true c1
    subst hg
    generalize hES : m :: es = ES at *
    have hlen0 : ES.length ≠ 0 := by rw [← hES]; simp
    unfold keysG at he
    cases he
    intro w0 E args' w ro' n R hw ha hR
    -- the argument
    obtain ⟨x', hx', hr⟩ := ha.get (i := 0) rfl
    obtain ⟨a', cc', rfl, hra, hrc⟩ := hr.func_inv
    have ha0 : a' = #[] := by have := hra.size; exact Array.eq_empty_of_size_eq_zero (by simpa using this.symm)
    subst ha0
    obtain ⟨p', hp', hrp⟩ := hrc.get (i := 0) rfl
    obtain ⟨e, hE, rfl⟩ := hrp.ptr_inv
    have hcc : cc' = #[.pointer (some ⟨e.blk, 0 + e.sh, none⟩)] := by
      have h1 : cc'.size = 1 := by have := hrc.size; simpa using this.symm
      apply Array.ext (by simp [h1])
      intro i hi1 hi2
      have : i = 0 := by omega
      subst this
      have := (Array.getElem?_eq_some_iff.1 hp').2
      simpa using this
    subst hcc
    have hargs : args' = #[.func (.func g') #[] #[.pointer (some ⟨e.blk, 0 + e.sh, none⟩)]] := by
      have h1 : args'.size = 1 := by have := ha.size; simpa using this.symm
      apply Array.ext (by simp [h1])
      intro i hi1 hi2
      have : i = 0 := by omega
      subst this
      have := (Array.getElem?_eq_some_iff.1 hx').2
      simpa using this
    subst hargs
    -- the box
    have hbox := (hw.obj bb _ e hbb hE).there (.inr rfl)
    obtain ⟨arr, fz, k1, _, _, k4, k5⟩ := hbox
    obtain ⟨_, hsh, _⟩ := k5 rfl
    obtain ⟨y', hy', hry⟩ := k4 0 (.map (some mb)) rfl
    rw [hsh] at hy'
    cases hry with
    | flat h => cases h
    | @map r e2 hE2 =>
    have hcell : w.cell? ⟨e.blk, 0, none⟩ = some (.map (some e2.blk)) := by
      unfold World.cell?
      rw [k1]
      simpa using hy'
    -- the map
    have hmap := hw.obj mb _ e2 hmb hE2
    obtain ⟨es', q1, q2, q3⟩ : ∃ es' : Array MapEntry, w.heap[e2.blk]? = some (.map es' clock) ∧ ES.length = es'.size ∧ ∀ (i : Nat) (m : MapEntry), ES[i]? = some m → ∃ m', es'[i]? = some m' ∧ ER E m m' := hmap
    obtain ⟨D0, d1, d2, d3⟩ := owns_of (P := P) (tK := tK) (w := w) (b := e2.blk) hk q1 ⟨q2, fun i m hm => by obtain ⟨m', a, b⟩ := q3 i m hm; exact ⟨m', a, b.key, b.born⟩⟩ c2 c3 (Nat.le_of_ble_eq_true c4)
    have hcall := hc w e.blk e2.blk ES.length D0 rK hcell d1 (by rw [d2]; exact Nat.le_of_ble_eq_true c4)
    have hzero : (0 + e.sh) = 0 := by omega
    rw [hzero]
    refine (fw_of_calls ro' n hcall).mono ?_
    rintro e' w' ⟨v, ss, rfl, hperm, hrow, hnil, hb⟩
    have hpk : ss.Perm (ES.map keyI) := hperm.trans d3
    have hsl : ss.length = ES.length := by rw [hpk.length_eq]; simp
    have hsort := isortI_eq hpk
    rcases hrow.2 with ⟨_, hz⟩ | ⟨gb, cap, cur, rfl, hbase, hgb, r1, r2, r3, r4⟩
    · exact absurd (hsl ▸ hz) hlen0
    · rw [hsort] at r4
      have hw2 := hw.later hb
      have hfree : ∀ (b : Nat) (y : CO) (x : En), H[b]? = some y → E[b]? = some x → y.alive = true → x.blk ≠ gb := by
        intro b y x hy hx hya hxg
        have := (hw.obj b y x hy hx).lt hya
        omega
      have hww := hw2.attach (w' := w') (.cells ((isortI (ES.map keyI)).map (.int .i64)) tE 1 false) ⟨gb, 0, cap - ES.length⟩ hfree (by have := hw.below.size; exact Nat.le_trans this hbase) rfl rfl rfl rfl (fun _ _ => rfl) (by
        have hlen : ((isortI (ES.map keyI)).map (Value.int .i64)).length = ES.length := by
          rw [List.length_map, (isortI_perm _).length_eq, List.length_map]
        refine ⟨cur, (0, 0), hgb, .inl rfl, ?_, fun i x hx => ?_, fun h => by cases h⟩
        · rw [r3, hlen]
          dsimp only
          omega
        · have hi : i < ES.length := by rw [← hlen]; exact (List.getElem?_eq_some_iff.1 hx).1
          have hcur : cur.toList[i]? = some x := by
            have h1 : (cur.toList.take (ss.length * 1))[i]? = some x := by rw [r4]; exact hx
            rw [List.getElem?_take, if_pos (by omega)] at h1
            exact h1
          refine ⟨x, by simpa using hcur, ?_⟩
          rw [List.getElem?_map] at hx
          cases hq : (isortI (ES.map keyI))[i]? with
          | none => rw [hq] at hx; cases hx
          | some z => rw [hq] at hx; cases hx; exact .flat rfl)
      refine hR [⟨gb, 0, cap - ES.length⟩] _ w' hww ?_
      rw [hsl]
      have hcap : cap = ES.length + (cap - ES.length) := by omega
      have := VR.newSlice (E := E) hw ⟨gb, 0, cap - ES.length⟩ ES.length ES.length 0 rfl
      dsimp only at this
      rwa [← hcap] at this
theorem TSound.keys {P : Program} {G : Nat} {T : Tb} {fS g : FuncId} {tK tE : TypeId} (hT : TSound P G T) (hk : P.underlying tK = some (.int .i64)) (hc : SortC P fS g tK tE) (hf : fS % 1000000 = fS := by rfl) : TSound P G (Ex.ext T fS (keysE g tE)) :=
  hT.ext (keys_ok hk hc) hf
end Go.Ex
