/- Part of the proof. -/
import Derived.Test.YteemponkignnhaaGreatEngOpsA
noncomputable section
namespace Go.Ex
open Go.RowKit
def firstS (H : CH) (size n : Nat) : Value → Option (List Value)
  | .slice (some ⟨b, off, none⟩) len cap => if n ≤ len ∧ len ≤ cap then H.row? b off (n * size) else none
  | .slice none _ _ => if n = 0 then some [] else none
  | .string s => some ((s.extract 0 n).data.toList.map fun b => .int .u8 b.toNat)
  | _ => none
theorem run_firstS {w0 : World} {G : Nat} {E : Env} {H : CH} {w : World} (P : Program) (h : WR w0 G E H w) {size n : Nat} {v v' : Value} {xs : List Value} (hv : VR E v v') (hs : firstS H size n v = some xs) :
    ∃ ys, (Builtin.firstCells size n v').run P w = .ok ys w ∧ VRs E xs.toArray ys := by
  unfold firstS at hs
  split at hs
  · rename_i b off len cap
    split at hs
    case isFalse => cases hs
    rename_i hn
    by_cases hz : n = 0
    · subst hz
      simp only [Nat.zero_mul, CH.row?] at hs
      cases hs
      rcases hv.slice_inv' with ⟨rfl, rfl, ⟨a0, rfl⟩, e0, he0, hs0⟩ | ⟨e, off', he, rfl, ho⟩
      · exact ⟨#[], by cases a0 <;> first | rfl | simp [Builtin.firstCells, loadCells, loadCellsFrom], .nil E⟩
      · exact ⟨#[], by simp [Builtin.firstCells, loadCells, loadCellsFrom], .nil E⟩
    · obtain ⟨e, off', he, rfl, ho⟩ := hv.slice_inv (by omega)
      have ho' : off' = off + e.sh := by rcases ho with ho | ho; exact ho; omega
      subst ho'
      exact run_loadCells P h he hs
  · split at hs
    case isFalse => cases hs
    cases hs
    cases hv with
    | flat _ => exact ⟨#[], rfl, .nil E⟩
  · rename_i s
    cases hs
    cases hv with
    | flat _ =>
      refine ⟨(s.extract 0 n).data.map fun b => .int .u8 b.toNat, rfl, ?_⟩
      rw [← Array.toList_map]
      refine ⟨by simp, fun i x x' hx hx' => ?_⟩
      rw [Array.toArray_toList] at hx
      rw [hx] at hx'
      cases hx'
      rw [Array.getElem?_map] at hx
      cases hg : (s.extract 0 n).data[i]? with
      | none => rw [hg] at hx; cases hx
      | some b => rw [hg] at hx; cases hx; exact .flat rfl
  · cases hs
def lenS : Value → Option Nat
  | .slice _ n _ => some n
  | .string s => some s.size
  | _ => none
theorem run_lenS {E : Env} {P : Program} {v v' : Value} {n : Nat} (hv : VR E v v') (hs : lenS v = some n) (w : World) : (Builtin.lenOf v').run P w = .ok n w := by
  cases v <;> simp only [lenS] at hs <;> cases hs
  · cases hv with | flat _ => rfl
  · cases hv with
    | flat _ => rfl
    | slice _ _ => rfl
    | nils _ _ => rfl
theorem growBy_le (n : Nat) : ∀ (k c : Nat), c ≤ 2 * n + 256 → Builtin.growBy n k c ≤ 2 * n + 256
  | 0, c, h => h
  | k + 1, c, h => by
    unfold Builtin.growBy
    split
    · exact h
    · exact growBy_le n k _ (by omega)
theorem nextslicecap_le (n c : Nat) (h : c < n) : Builtin.nextslicecap n c ≤ 2 * n + 512 := by
  unfold Builtin.nextslicecap
  split
  · omega
  · split
    · omega
    · have := growBy_le n 4 c (by omega); omega
def elemS (P : Program) (t : TypeId) : Option (TypeId × Nat) :=
  match P.underlying t with
  | some (.slice e) => match P.info? e with
    | some i => match i.zero with
      | some z => if cleans z.cells ∧ z.cells.size = i.size ∧ i.bytes ≤ 65536 then some (e, i.size) else none
      | none => none
    | none => none
  | _ => none
structure ElemIs (P : Program) (t e : TypeId) (i : TypeInfo) (z : Value) : Prop where
  und : P.underlying t = some (.slice e)
  inf : P.info? e = some i
  zer : i.zero = some z
  cle : cleans z.cells = true
  siz : z.cells.size = i.size
  byt : i.bytes ≤ 65536
theorem elemS_is {P : Program} {t e : TypeId} {s : Nat} (h : elemS P t = some (e, s)) : ∃ i z, ElemIs P t e i z ∧ s = i.size := by
  unfold elemS at h
  cases hu : P.underlying t with
  | none => rw [hu] at h; cases h
  | some d =>
    rw [hu] at h
    cases d with
    | slice e' =>
      dsimp only at h
      cases hi : P.info? e' with
      | none => rw [hi] at h; cases h
      | some i =>
        rw [hi] at h
        dsimp only at h
        cases hz : i.zero with
        | none => rw [hz] at h; cases h
        | some z =>
          rw [hz] at h
          dsimp only at h
          split at h
          case isFalse => cases h
          rename_i hc
          cases h
          exact ⟨i, z, ⟨hu, hi, hz, hc.1, hc.2.1, hc.2.2⟩, rfl⟩
    | _ => cases h
def plainArg (P : Program) (t : TypeId) : Bool :=
  match P.underlying t with
  | some (.slice _) | some .string => true
  | _ => false
def appendS (P : Program) (G : Nat) (H : CH) (t tx : TypeId) (s x : Value) : Option (Value × CH) :=
  match elemS P t, plainArg P tx, lenS x with
  | some (e, size), true, some n => match firstS H size n x with
    | some new => if new.length = n * size then match s with
      | .slice none len cap => if len = 0 ∧ cap = 0 then
          if n = 0 then some (.slice none 0 0, H)
          else if n ≤ 1048576 then some (.slice (some ⟨H.length, 0, none⟩) n n, H.push (.cells new e size false)) else none
        else none
      | .slice (some ⟨b, off, none⟩) len cap =>
        if len ≤ cap then
          if len + n ≤ cap then (storeRow G H b (off + len * size) new).map fun H' => (.slice (some ⟨b, off, none⟩) (len + n) cap, H')
          else if len + n ≤ 1048576 then
            match H.row? b off (len * size) with
            | some old => match H[b]? with
              | some (.cells cs e' s' ex) => if ex = true then some (.slice (some ⟨H.length, 0, none⟩) (len + n) (len + n), H.push (.cells (old ++ new) e size false))
                else if e' = e ∧ s' = size ∧ off + cap * size = cs.length ∧ G ≤ b ∧ new.all oneB = true then
                  some (.slice (some ⟨H.length, 0, none⟩) (len + n) (len + n), (H.set b .dead).push (.cells (old ++ new) e size false))
                else none
              | _ => none
            | none => none
          else none
        else none
      | _ => none
      else none
    | none => none
  | _, _, _ => none
theorem size_zeroCells (z : Array Value) (n : Nat) : (Builtin.zeroCells z n).size = n * z.size := by simp [Builtin.zeroCells]
theorem run_append_grow {P : Program} {w : World} {t tx ty e : TypeId} {i : TypeInfo} {z : Value} (hE : ElemIs P t e i z) {base : Option Addr} {len cap n : Nat} {x : Value} (hx : plainArg P tx = true)
    (hl : (Builtin.lenOf x).run P w = .ok n w) (hroom : cap < len + n) (hn : len + n ≤ 1048576)
    {old new : Array Value} (ho : (Builtin.firstCells i.size len (.slice base len cap)).run P { w with drawn := w.drawn + 1 } = .ok old { w with drawn := w.drawn + 1 })
    (hw : (Builtin.firstCells i.size n x).run P { w with drawn := w.drawn + 1 } = .ok new { w with drawn := w.drawn + 1 }) :
    ∃ dl, (Builtin.append_ #[t, tx] ty #[.slice base len cap, x]).run P w =
      .ok (.slice (some ⟨w.heap.size, 0, none⟩) (len + n) (len + n + dl)) ({ w with drawn := w.drawn + 1 }.alloc (.cells (old ++ new ++ Builtin.zeroCells z.cells dl) e)) := by
  have hns := nextslicecap_le (len + n) cap hroom
  have hb := hE.byt
  have hmul : Builtin.nextslicecap (len + n) cap * i.bytes ≤ 2097664 * 65536 := Nat.mul_le_mul (by omega) hb
  have hti : ∀ w', (typeInfo e).run P w' = .ok i w' := fun w' => by simp [typeInfo, hE.inf]
  have hle : ¬ len + n ≤ cap := by omega
  have h63 : ¬ ((len + n : Nat) : Int) > IntKind.i64.max := by show ¬ ((len + n : Nat) : Int) > 9223372036854775807; omega
  have hlim : ¬ Builtin.nextslicecap (len + n) cap * i.bytes > 2 ^ 48 := by omega
  have hforced : (Question.appendCap (len + n) cap e).forced = false := rfl
  refine ⟨(w.tape w.drawn (.appendCap (len + n) cap e)) % (2 ^ 63 - (len + n)), ?_⟩
  have hcut : (Question.appendCap (len + n) cap e).cut (w.tape w.drawn (.appendCap (len + n) cap e)) = len + n + (w.tape w.drawn (.appendCap (len + n) cap e)) % (2 ^ 63 - (len + n)) := rfl
  cases hu : P.underlying tx with
  | none => unfold plainArg at hx; rw [hu] at hx; cases hx
  | some d =>
    cases d <;> first
      | (unfold plainArg at hx; rw [hu] at hx; cases hx; done)
      | (simp only [Builtin.append_, List.getElem?_toArray, List.getElem?_cons_zero, List.getElem?_cons_succ, Sem.run_bind, run_underlying' hE.und, run_underlying' hu, Result.andThen_ok, run_sizeOf hE.inf, Sem.run_pure, Bool.false_eq_true, if_false, hl]
         rw [if_neg hle]
         simp only [Sem.run_bind, hti, Result.andThen_ok]
         rw [if_neg (fun hh => h63 hh.1)]
         simp only [Sem.run_bind, hti, Result.andThen_ok]
         rw [if_neg hlim]
         simp only [Sem.run_bind, run_choose, hforced, Bool.false_eq_true, if_false, Result.andThen_ok, hti, run_askRoom, hcut, run_zeroValue' hE.inf hE.zer]
         rw [ho]
         simp only [Result.andThen_ok, Bool.not_false, if_true]
         rw [hw]
         simp only [Result.andThen_ok, newRow, Sem.run_bind, run_newObj, Sem.run_pure, Nat.add_sub_cancel_left]
         rfl)
theorem run_append_fits {P : Program} {w : World} {t tx ty e : TypeId} {i : TypeInfo} {z : Value} (hE : ElemIs P t e i z) {base : Option Addr} {len cap n : Nat} {x : Value} (hx : plainArg P tx = true)
    (hl : (Builtin.lenOf x).run P w = .ok n w) (hroom : len + n ≤ cap) {new : Array Value} (hw : (Builtin.firstCells i.size n x).run P w = .ok new w) :
    (Builtin.append_ #[t, tx] ty #[.slice base len cap, x]).run P w =
      match base with
      | none => .ok (.slice none (len + n) cap) w
      | some a => ((storeCells (a.add (len * i.size)) new.toList).run P w).andThen fun _ w' => .ok (.slice (some a) (len + n) cap) w' := by
  cases hu : P.underlying tx with
  | none => unfold plainArg at hx; rw [hu] at hx; cases hx
  | some d =>
    cases d <;> first
      | (unfold plainArg at hx; rw [hu] at hx; cases hx; done)
      | (simp only [Builtin.append_, List.getElem?_toArray, List.getElem?_cons_zero, List.getElem?_cons_succ, Sem.run_bind, run_underlying' hE.und, run_underlying' hu, Result.andThen_ok, run_sizeOf hE.inf, Sem.run_pure, Bool.false_eq_true, if_false, hl]
         rw [if_pos hroom]
         simp only [Sem.run_bind, Bool.not_false, if_true, hw, Result.andThen_ok]
         cases base <;> simp only [Sem.run_bind, Sem.run_pure])
theorem row_length {H : CH} {b : Nat} : ∀ {n off : Nat} {xs : List Value}, H.row? b off n = some xs → xs.length = n
  | 0, _, _, h => by cases h; rfl
  | n + 1, off, xs, h => by
    simp only [CH.row?] at h
    split at h
    · cases hr : H.row? b (off + 1) n with
      | none => rw [hr] at h; cases h
      | some r => rw [hr] at h; cases h; simp [row_length hr]
    · cases h
theorem row_get {H : CH} {b : Nat} : ∀ {n off : Nat} {xs : List Value}, H.row? b off n = some xs → ∀ j x, xs[j]? = some x → H.cell? b (off + j) = some x
  | 0, _, _, h, j, x, hx => by cases h; simp at hx
  | n + 1, off, xs, h, j, x, hx => by
    simp only [CH.row?] at h
    split at h
    · rename_i y hy
      cases hr : H.row? b (off + 1) n with
      | none => rw [hr] at h; cases h
      | some r =>
        rw [hr] at h
        cases h
        match j, hx with
        | 0, hx => cases hx; exact hy
        | j + 1, hx =>
          have := row_get hr j x (by simpa using hx)
          rw [← this]; congr 1; omega
    · cases h
theorem WR.grown {w0 : World} {G : Nat} {E : Env} {H : CH} {w : World} (h : WR w0 G E H w) {a a' z : Array Value} (ha : VRs E a a') (t : TypeId) (s dl : Nat) (hz : z.size = s) :
    WR w0 G (E ++ [⟨w.heap.size, 0, dl⟩]) (H.push (.cells a.toList t s false)) (w.alloc (.cells (a' ++ Builtin.zeroCells z dl) t)) := by
  refine h.push _ _ _ rfl ⟨_, (0, 0), heap_alloc_new w _, .inl rfl, ?_, fun i x hx => ?_, fun h => by cases h⟩
  · simp [size_zeroCells, hz, ha.size]
  · obtain ⟨x', h1, h2⟩ := ha.toList_get hx
    refine ⟨x', ?_, h2.mono _⟩
    show (a' ++ Builtin.zeroCells z dl)[0 + i]? = some x'
    rw [Nat.zero_add, Array.getElem?_append_left (Array.getElem?_eq_some_iff.1 h1).1]
    exact h1
theorem run_storeCells_raw {P : Program} {x : Nat} {t : TypeId} {fz : Nat × Nat} (k : Nat) : ∀ (ys : List Value) (i : Nat) (arr : Array Value) (w : World), w.heap[x]? = some (.cells arr t fz) → (fz = (0, 0) ∨ arr.size ≤ fz.1) →
      (∀ y ∈ ys, y.oneCell' = true) → k + i + ys.length ≤ arr.size →
      ∃ (arr' : Array Value) (w' : World), (storeCells ⟨x, k, none⟩ ys i).run P w = .ok () w' ∧ w'.heap[x]? = some (.cells arr' t fz) ∧ arr'.size = arr.size ∧ (∀ j, j < k + i → arr'[j]? = arr[j]?) ∧
        (∀ (j : Nat) (y : Value), ys[j]? = some y → arr'[k + i + j]? = some y) ∧ w'.os = w.os ∧ w'.tape = w.tape ∧ w'.output = w.output ∧ w'.heap.size = w.heap.size ∧ ∀ q, q ≠ x → w'.heap[q]? = w.heap[q]?
  | [], i, arr, w, hb, _, _, _ => ⟨arr, w, rfl, hb, rfl, fun _ _ => rfl, fun j y h => by simp at h, rfl, rfl, rfl, rfl, fun _ _ => rfl⟩
  | y :: r, i, arr, w, hb, hfz, h1, hfit => by
    have hlt : k + i < arr.size := by simp at hfit; omega
    have hc : w.cell? ⟨x, k + i, none⟩ = some arr[k + i] := by
      unfold World.cell?
      simp only [hb]
      simp [hlt]
    have hf : w.frozen? ⟨x, k + i, none⟩ = false := by
      unfold World.frozen?
      simp only [hb]
      rcases hfz with rfl | hfz
      · simp
      · simp; omega
    have hheap : (w.setCell ⟨x, k + i, none⟩ y).heap[x]? = some (.cells (arr.setIfInBounds (k + i) y) t fz) := by
      simp [World.setCell, Array.getElem?_modify, hb]
    obtain ⟨arr', w', g1, g2, g3, g4, g5, g6, g7, g8, g9, g10⟩ := run_storeCells_raw (P := P) k r (i + 1) _ _ hheap (by simpa using hfz) (fun z hz => h1 z (List.mem_cons_of_mem _ hz)) (by simp at hfit ⊢; omega)
    refine ⟨arr', w', ?_, g2, by simpa using g3, fun j hj => ?_, fun j z hz => ?_, g6, g7, g8, by simpa [World.setCell] using g9, fun q hq => (g10 q hq).trans (Below.heap_setCell _ _ _ _ (by simpa using hq))⟩
    · simp only [storeCells, Sem.run_bind]
      rw [run_store P w _ y _ (h1 y (List.mem_cons_self ..)), add_eq, hc]
      simp only [hf, Bool.false_eq_true, if_false, Result.andThen_ok]
      exact g1
    · rw [g4 j (by omega), Array.getElem?_setIfInBounds_ne (by omega)]
    · match j, hz with
      | 0, hz =>
        cases hz
        rw [Nat.add_zero, g4 (k + i) (by omega), Array.getElem?_setIfInBounds_self_of_lt hlt]
      | j + 1, hz =>
        have := g5 j z (by simpa using hz)
        rw [← this]; congr 1; omega
theorem WR.attach {w0 : World} {G : Nat} {E : Env} {H : CH} {w w' : World} (h : WR w0 G E H w) (o : CO) (e : En) (hfree : ∀ (b : Nat) (y : CO) (x : En), H[b]? = some y → E[b]? = some x → y.alive = true → x.blk ≠ e.blk)
    (hlo : w0.heap.size ≤ e.blk) (hos : w'.os = w.os) (htape : w'.tape = w.tape) (hout : w'.output = w.output) (hsz : w'.heap.size = w.heap.size) (hk : ∀ k, k ≠ e.blk → w'.heap[k]? = w.heap[k]?)
    (ho : OR (E ++ [e]) e w' o) : WR w0 G (E ++ [e]) (H.push (o)) w' := by
  have hE : ∀ {b : Nat} {x : En} {y : CO}, (E ++ [e])[b]? = some x → (H.push (o))[b]? = some y → (E[b]? = some x ∧ H[b]? = some y) ∨ (b = E.length ∧ x = e ∧ y = o) := by
    intro b x y hx hy
    rcases getElem?_snoc_some hx with hx | ⟨h1, h2⟩ <;> rcases push_some hy with hy | ⟨h3, h4⟩
    · exact .inl ⟨hx, hy⟩
    · have := (List.getElem?_eq_some_iff.1 hx).1; have := h.len; omega
    · have := Hp.lt hy; have := h.len; omega
    · exact .inr ⟨h1, h2, h4⟩
  refine ⟨by simp [h.len, Hp.length_push], by simp; have := h.glen; omega, h.below.trans ⟨hos, htape, hout, by omega, fun k hk' => hk k (by omega)⟩, ?_, ?_, ?_, ?_⟩
  · intro b y x hy hx
    rcases hE hx hy with ⟨hx, hy⟩ | ⟨_, rfl, rfl⟩
    · by_cases hya : y.alive = true
      · exact ORg.mono [e] (ORg.congr (hk _ (hfree b y x hy hx hya)) (h.obj b y x hy hx))
      · cases y <;> first | exact trivial | (exact absurd rfl hya)
    · exact ho.gen _
  · intro b b' y y' x x' hGG hy hy' hx hx' ha ha' hblk
    rcases hE hx hy with ⟨hx1, hy1⟩ | ⟨h1, h2, h3⟩ <;> rcases hE hx' hy' with ⟨hx1', hy1'⟩ | ⟨h1', h2', h3'⟩
    · exact h.inj b b' y y' x x' hGG hy1 hy1' hx1 hx1' ha ha' hblk
    · rw [h2'] at hblk; exact absurd hblk (hfree b y x hy1 hx1 ha)
    · rw [h2] at hblk; exact absurd hblk.symm (hfree b' y' x' hy1' hx1' ha')
    · omega
  · intro b y x hy hx ha hG
    rw [hsz]
    rcases hE hx hy with ⟨hx, hy⟩ | ⟨h1, rfl, rfl⟩
    · exact h.new b y x hy hx ha hG
    · exact ⟨hlo, by have := ho.lt ha; omega⟩
  · refine ⟨h.old.1, fun b x hb hx => ?_⟩
    have hbl : b < E.length := by have := h.glen; have := h.old.1; omega
    rw [List.getElem?_append_left hbl] at hx
    exact h.old.2 b x hb hx
theorem run_appendS {w0 : World} {G : Nat} {E : Env} {H H' : CH} {w : World} {P : Program} (h : WR w0 G E H w) {t tx ty : TypeId} {s s' x x' v : Value} (hs' : VR E s s') (hx' : VR E x x') (hs : appendS P G H t tx s x = some (v, H')) :
    ∃ F v' w', (Builtin.append_ #[t, tx] ty #[s', x']).run P w = .ok v' w' ∧ VR (E ++ F) v v' ∧ WR w0 G (E ++ F) H' w' := by
  unfold appendS at hs
  split at hs
  case h_2 => cases hs
  rename_i e size n hel hpl hln
  obtain ⟨i, z, hE, rfl⟩ := elemS_is hel
  have hlw := run_lenS (P := P) hx' hln w
  cases hf : firstS H i.size n x with
  | none => rw [hf] at hs; cases hs
  | some new =>
    rw [hf] at hs
    dsimp only at hs
    split at hs
    case isFalse => cases hs
    rename_i hnl
    obtain ⟨ys, hy1, hy2⟩ := run_firstS P h hx' hf
    have hd := h.draws (w.drawn + 1)
    obtain ⟨yd, hd1, hd2⟩ := run_firstS P hd hx' hf
    split at hs
    · -- nil
      rename_i len cap
      split at hs
      case isFalse => cases hs
      rename_i h0
      obtain ⟨rfl, rfl⟩ := h0
      cases hs' with
      | flat _ =>
        split at hs
        · rename_i hn0
          subst hn0
          cases hs
          refine ⟨[], .slice none 0 0, w, ?_, .flat rfl, by simpa using h⟩
          rw [run_append_fits hE hpl hlw (Nat.le_refl _) hy1]
        · split at hs
          case isFalse => cases hs
          rename_i hn0 hnb
          cases hs
          obtain ⟨dl, hr⟩ := run_append_grow (ty := ty) (base := none) (len := 0) (cap := 0) (old := #[]) hE hpl hlw (by omega) (by omega) rfl hd1
          rw [Nat.zero_add] at hr
          refine ⟨[⟨w.heap.size, 0, dl⟩], _, _, hr, VR.newSlice h ⟨w.heap.size, 0, dl⟩ n n 0 rfl, ?_⟩
          have := hd.grown (a := new.toArray) (z := z.cells) hd2 e i.size dl hE.siz
          simpa using this
    · -- there is a row
      rename_i b off len cap
      rcases hs'.slice_inv' with ⟨rfl, rfl, ⟨a0, rfl⟩, e0, he0, hs0⟩ | ⟨en, off', he, rfl, ho⟩
      · rw [if_pos (Nat.le_refl 0)] at hs
        by_cases hn0 : n = 0
        · subst hn0
          rw [if_pos (by omega)] at hs
          have hnew : new = [] := List.eq_nil_of_length_eq_zero (by rw [hnl, Nat.zero_mul])
          subst hnew
          cases hs
          refine ⟨[], .slice a0 0 0, w, ?_, .nils (Env.get_mono he0) hs0, by simpa using h⟩
          rw [run_append_fits hE hpl hlw (Nat.le_refl _) hy1]
          have hy0 : ys = #[] := Array.eq_empty_of_size_eq_zero hy2.size.symm
          subst hy0
          cases a0 <;> rfl
        · rw [if_neg (by omega)] at hs
          split at hs
          case isFalse => cases hs
          rename_i hnb
          simp only [Nat.zero_mul, CH.row?, Nat.zero_add, List.nil_append] at hs
          obtain ⟨dl, hr⟩ := run_append_grow (ty := ty) (base := a0) (len := 0) (cap := 0) (old := #[]) hE hpl hlw (by omega) (by omega) (by cases a0 <;> first | rfl | simp [Builtin.firstCells, loadCells, loadCellsFrom]) hd1
          rw [Nat.zero_add] at hr
          split at hs
          case h_2 => cases hs
          split at hs
          · cases hs
            refine ⟨[⟨w.heap.size, 0, dl⟩], _, _, hr, VR.newSlice h ⟨w.heap.size, 0, dl⟩ n n 0 rfl, ?_⟩
            have := hd.grown (a := new.toArray) (z := z.cells) hd2 e i.size dl hE.siz
            simpa using this
          · split at hs
            case isFalse => cases hs
            rename_i hcond
            obtain ⟨rfl, rfl, hcs, hG, hone⟩ := hcond
            cases hs
            have hk := hd.kill b
            have hlen : (H.set b .dead).length = H.length := rfl
            refine ⟨[⟨w.heap.size, 0, dl⟩], _, _, hr, VR.newSlice h ⟨w.heap.size, 0, dl⟩ n n 0 rfl, ?_⟩
            have hgr := fun t0 => hk.grown (a := new.toArray) (z := z.cells) hd2 t0 i.size dl hE.siz
            simpa using hgr _
      split at hs
      case isFalse => cases hs
      rename_i hlc
      split at hs
      · -- there is room
        rename_i hroom
        cases hst : storeRow G H b (off + len * i.size) new with
        | none => rw [hst] at hs; cases hs
        | some H1 =>
          rw [hst] at hs
          cases hs
          have hrun := run_append_fits (ty := ty) (base := some ⟨en.blk, off', none⟩) hE hpl hlw (show len + n ≤ cap + en.dl by omega) hy1
          by_cases hc0 : cap + en.dl = 0
          · have hn0 : n = 0 := by omega
            have hnew : new = [] := List.eq_nil_of_length_eq_zero (by rw [hnl, hn0, Nat.zero_mul])
            subst hnew
            simp only [storeRow] at hst
            cases hst
            have hys : ys = #[] := Array.eq_empty_of_size_eq_zero (by rw [← hy2.size]; rfl)
            subst hys
            refine ⟨[], _, w, hrun, ?_, by simpa using h⟩
            rw [List.append_nil]
            exact .slice he (.inr hc0)
          · have ho' : off' = off + en.sh := by rcases ho with ho | ho; exact ho; exact absurd ho hc0
            subst ho'
            obtain ⟨w1, hw1, hw2⟩ := run_storeCells P he (off + len * i.size) new ys.toList 0 H H' w h (by simpa using hy2.size) (fun j y y' a b => hy2.at_ j y y' (by simpa using a) (by simpa using b)) hst
            refine ⟨[], .slice (some ⟨en.blk, off + en.sh, none⟩) (len + n) (cap + en.dl), w1, ?_, ?_, by simpa using hw2⟩
            · rw [hrun]
              dsimp only
              rw [add_eq, show off + en.sh + len * i.size = off + len * i.size + en.sh from by omega, hw1]
              rfl
            · rw [List.append_nil]
              exact .slice he (.inl rfl)
      · -- no room
        rename_i hroom
        split at hs
        case isFalse => cases hs
        rename_i hbig
        cases hro : H.row? b off (len * i.size) with
        | none => rw [hro] at hs; cases hs
        | some old =>
          rw [hro] at hs
          dsimp only at hs
          split at hs
          case h_2 => cases hs
          rename_i cs e' s' ex hH
          have hol := row_length hro
          have hold : ∃ yo, (Builtin.firstCells i.size len (.slice (some ⟨en.blk, off', none⟩) len (cap + en.dl))).run P { w with drawn := w.drawn + 1 } = .ok yo { w with drawn := w.drawn + 1 } ∧ VRs E old.toArray yo := by
            by_cases hc0 : cap + en.dl = 0
            · have hl0 : len = 0 := by omega
              subst hl0
              rw [Nat.zero_mul] at hro
              cases hro
              exact ⟨#[], by simp [Builtin.firstCells, loadCells, loadCellsFrom], .nil E⟩
            · have ho' : off' = off + en.sh := by rcases ho with ho | ho; exact ho; exact absurd ho hc0
              subst ho'
              exact run_loadCells P hd he hro
          obtain ⟨yo, ho1, ho2⟩ := hold
          have hgrow : ∀ (hr : cap + en.dl < len + n), ∃ dl, (Builtin.append_ #[t, tx] ty #[.slice (some ⟨en.blk, off', none⟩) len (cap + en.dl), x']).run P w =
              .ok (.slice (some ⟨w.heap.size, 0, none⟩) (len + n) (len + n + dl)) ({ w with drawn := w.drawn + 1 }.alloc (.cells (yo ++ yd ++ Builtin.zeroCells z.cells dl) e)) := fun hr =>
            run_append_grow hE hpl hlw hr hbig ho1 hd1
          have hcat : VRs E (old ++ new).toArray (yo ++ yd) := by
            have := ho2.append hd2
            simpa using this
          split at hs
          · -- known to be full
            rename_i hex
            subst hex
            cases hs
            obtain ⟨_, _, _, _, _, _, hex⟩ := (h.obj b _ en hH he).there (.inr rfl)
            have hdl := hex rfl
            obtain ⟨dl, hr⟩ := hgrow (by omega)
            refine ⟨[⟨w.heap.size, 0, dl⟩], _, _, hr, VR.newSlice h ⟨w.heap.size, 0, dl⟩ (len + n) (len + n) 0 rfl, ?_⟩
            have := hd.grown (z := z.cells) hcat e i.size dl hE.siz
            simpa using this
          · split at hs
            case isFalse => cases hs
            rename_i hcond
            obtain ⟨rfl, rfl, hcs, hG, hone⟩ := hcond
            cases hs
            by_cases hr : cap + en.dl < len + n
            · obtain ⟨dl, hr⟩ := hgrow hr
              have hk := hd.kill b
              have hlen : (H.set b .dead).length = H.length := rfl
              refine ⟨[⟨w.heap.size, 0, dl⟩], _, _, hr, VR.newSlice h ⟨w.heap.size, 0, dl⟩ (len + n) (len + n) 0 rfl, ?_⟩
              have := hk.grown (z := z.cells) hcat e' i.size dl hE.siz
              simpa using this
            · -- there is room in the real run: the row is written in place
              have hcap : len + n ≤ cap + en.dl := by omega
              have hpos : cap + en.dl ≠ 0 := by omega
              have ho' : off' = off + en.sh := by rcases ho with ho | ho; exact ho; exact absurd ho hpos
              subst ho'
              have hex0 : ex = false := by simpa using ‹¬ex = true›
              subst hex0
              obtain ⟨arr, fz, a1, a2, a3, a4, a5⟩ := (h.obj b _ en hH he).full hG
              have hrun := run_append_fits (ty := ty) (base := some ⟨en.blk, off + en.sh, none⟩) hE hpl hlw hcap hy1
              have hsize : arr.size = off + en.sh + (cap + en.dl) * i.size := by rw [a3, ← hcs, Nat.add_mul]; omega
              have hysz : ys.toList.length = n * i.size := by rw [Array.length_toList, ← hy2.size]; simpa using hnl
              have hmul : (len + n) * i.size ≤ (cap + en.dl) * i.size := Nat.mul_le_mul_right _ hcap
              have hmul2 : (len + n) * i.size = len * i.size + n * i.size := Nat.add_mul ..
              have hys1 : ∀ y ∈ ys.toList, y.oneCell' = true := fun y hy => by
                obtain ⟨j, hj⟩ := List.getElem?_of_mem hy
                have hjl : j < new.toArray.size := by rw [hy2.size]; simpa using (List.getElem?_eq_some_iff.1 hj).1
                have hr := hy2.at_ j _ y (Array.getElem?_eq_getElem hjl) (by simpa using hj)
                exact hr.one (List.all_eq_true.1 hone _ (by simp))
              obtain ⟨arr', w1, g1, g2, g3, g4, g5, g6, g7, g8, g9, g10⟩ := run_storeCells_raw (P := P) (off + en.sh + len * i.size) ys.toList 0 arr w a1 a2 hys1 (by rw [hysz]; omega)
              have hk := h.kill b
              have hnew := h.new b _ en hH he rfl hG
              have hlen : (H.set b .dead).length = H.length := rfl
              refine ⟨[⟨en.blk, off + en.sh, cap + en.dl - (len + n)⟩], .slice (some ⟨en.blk, off + en.sh, none⟩) (len + n) (cap + en.dl), w1, ?_, ?_, ?_⟩
              · rw [hrun]
                dsimp only
                rw [add_eq, g1]
                rfl
              · have := VR.newSlice h ⟨en.blk, off + en.sh, cap + en.dl - (len + n)⟩ (len + n) (len + n) (off + en.sh) rfl
                rw [show len + n + (cap + en.dl - (len + n)) = cap + en.dl from by omega] at this
                exact this
              · refine hk.attach _ _ (fun b' y' x' hy' hx' ha' hbl => ?_) hnew.1 g6 g7 g8 g9 g10 ⟨arr', fz, g2, by rw [g3]; exact a2, ?_, fun j y hy => ?_, fun hh => by cases hh⟩
                · rw [Hp.get_set] at hy'
                  split at hy'
                  · split at hy'
                    · cases hy'; cases ha'
                    · cases hy'
                  · rename_i hbb
                    exact hbb (h.inj b b' _ y' en x' (.inl hG) hH hy' he hx' rfl ha' hbl.symm)
                · rw [g3, hsize]
                  simp only [List.length_append, hol, hnl]
                  rw [Nat.sub_mul]; omega
                · show ∃ x', arr'[off + en.sh + j]? = some x' ∧ _
                  rw [List.getElem?_append] at hy
                  split at hy
                  · rename_i hj
                    rw [hol] at hj
                    have hcell := row_get hro j y hy
                    unfold CH.cell? at hcell
                    rw [hH] at hcell
                    obtain ⟨x', p1, p2⟩ := a4 _ y hcell
                    refine ⟨x', ?_, p2.mono _⟩
                    rw [g4 _ (by omega), ← p1]; congr 1; omega
                  · rename_i hj
                    rw [hol] at hj
                    rw [hol] at hy
                    have hjl : j - len * i.size < ys.size := by rw [← hy2.size]; simpa using (List.getElem?_eq_some_iff.1 hy).1
                    have hr := hy2.at_ (j - len * i.size) y _ (by simpa using hy) (Array.getElem?_eq_getElem hjl)
                    refine ⟨_, ?_, hr.mono _⟩
                    rw [← g5 (j - len * i.size) _ (by simp [hjl])]; congr 1; omega
    · cases hs
end Go.Ex
/- Engine, part 7: copy, make, maps, strings' iterators; an operation, and the pure ones at once. -/
noncomputable section
namespace Go.Ex
open Go.RowKit
def copyS (P : Program) (G : Nat) (H : CH) (t : TypeId) (d x : Value) : Option (Value × CH) :=
  match elemS P t, lenS x with
  | some (_, size), some n => match d with
    | .slice none len _ => if len = 0 then some (.int .i64 0, H) else none
    | .slice (some ⟨b, off, none⟩) len cap => if 0 < len ∧ len ≤ cap then
        match firstS H size (Nat.min n len) x with
        | some new => (storeRow G H b off new).map fun H' => (.int .i64 (Nat.min n len : Nat), H')
        | none => none
      else if len = 0 then some (.int .i64 0, H) else none
    | _ => none
  | _, _ => none
theorem firstCells_zero {E : Env} {P : Program} {size : Nat} {x x' : Value} (hx : VR E x x') {n : Nat} (hl : lenS x = some n) (w : World) : (Builtin.firstCells size 0 x').run P w = .ok #[] w := by
  cases hx with
  | slice _ _ => simp [Builtin.firstCells, loadCells, loadCellsFrom]
  | @nils _ _ _ a0 _ _ => cases a0 <;> first | rfl | simp [Builtin.firstCells, loadCells, loadCellsFrom]
  | flat hf =>
    cases x with
    | string s =>
      show Result.ok ((s.extract 0 0).data.map _) w = _
      simp
    | slice a _ _ =>
      cases a with
      | none => rfl
      | some a => cases hf
    | _ => cases hl
  | _ => cases hl
theorem run_copyS {w0 : World} {G : Nat} {E : Env} {H H' : CH} {w : World} {P : Program} (h : WR w0 G E H w) {t tx ty : TypeId} {s s' x x' v : Value} (hs' : VR E s s') (hx' : VR E x x') (hs : copyS P G H t s x = some (v, H')) :
    ∃ F v' w', (Builtin.copy_ #[t, tx] ty #[s', x']).run P w = .ok v' w' ∧ VR (E ++ F) v v' ∧ WR w0 G (E ++ F) H' w' := by
  unfold copyS at hs
  split at hs
  case h_2 => cases hs
  rename_i e size n hel hln
  obtain ⟨i, z, hE, rfl⟩ := elemS_is hel
  have hlw := run_lenS (P := P) hx' hln w
  have hz0 := firstCells_zero (P := P) (size := i.size) hx' hln w
  have hmin : Nat.min n 0 = 0 := Nat.min_zero n
  split at hs
  · rename_i len cap
    split at hs
    case isFalse => cases hs
    rename_i h0
    subst h0
    cases hs
    cases hs' with
    | flat _ =>
      refine ⟨[], .int .i64 0, w, ?_, .flat rfl, by simpa using h⟩
      simp only [Builtin.copy_, List.getElem?_toArray, List.getElem?_cons_zero, List.getElem?_cons_succ, Sem.run_bind, run_underlying' hE.und, Result.andThen_ok, hlw, run_sizeOf hE.inf, hmin, hz0, Sem.run_pure]
      rfl
  · rename_i b off len cap
    split at hs
    · rename_i hlen
      obtain ⟨en, off', he, rfl, ho⟩ := hs'.slice_inv (by omega)
      cases hf : firstS H i.size (Nat.min n len) x with
      | none => rw [hf] at hs; cases hs
      | some new =>
        rw [hf] at hs
        dsimp only at hs
        cases hst : storeRow G H b off new with
        | none => rw [hst] at hs; cases hs
        | some H1 =>
          rw [hst] at hs
          cases hs
          have ho' : off' = off + en.sh := by rcases ho with ho | ho; exact ho; omega
          subst ho'
          obtain ⟨ys, hy1, hy2⟩ := run_firstS P h hx' hf
          obtain ⟨w1, hw1, hw2⟩ := run_storeCells P he off new ys.toList 0 H H' w h (by simpa using hy2.size) (fun j y y' a b => hy2.at_ j y y' (by simpa using a) (by simpa using b)) hst
          refine ⟨[], .int .i64 (Nat.min n len : Nat), w1, ?_, .flat rfl, by simpa using hw2⟩
          simp only [Builtin.copy_, List.getElem?_toArray, List.getElem?_cons_zero, List.getElem?_cons_succ, Sem.run_bind, run_underlying' hE.und, Result.andThen_ok, hlw, run_sizeOf hE.inf, hy1, hw1, Sem.run_pure]
          rfl
    · split at hs
      case isFalse => cases hs
      rename_i h0
      subst h0
      cases hs
      rcases hs'.slice_inv' with ⟨_, rfl, ⟨a0, rfl⟩, _⟩ | ⟨en, off', he, rfl, ho⟩
      all_goals
        refine ⟨[], .int .i64 0, w, ?_, .flat rfl, by simpa using h⟩
        simp only [Builtin.copy_, List.getElem?_toArray, List.getElem?_cons_zero, List.getElem?_cons_succ, Sem.run_bind, run_underlying' hE.und, Result.andThen_ok, hlw, run_sizeOf hE.inf, hmin, hz0, Sem.run_pure]
        first
          | rfl
          | (cases a0 <;> rfl)
  · cases hs
def makeSliceS (P : Program) (H : CH) (t : TypeId) (l c : Value) : Option (Value × CH) :=
  match l, c with
  | .int _ l, .int _ c => match P.underlying t with
    | some (.slice e) => match P.info? e with
      | some i => if 0 ≤ l ∧ l ≤ c ∧ c ≤ 1048576 ∧ i.bytes ≤ 65536 then
          match zerosFor P e (c.toNat * i.size) with
          | some z => some (.slice (some ⟨H.length, 0, none⟩) l.toNat c.toNat, H.push (.cells (zeroRow z (c.toNat * i.size)).toList e i.size true))
          | none => none
        else none
      | none => none
    | _ => none
  | _, _ => none
theorem wrap_small {c : Int} (h0 : 0 ≤ c) (h1 : c ≤ 1048576) : IntKind.i64.wrap c = c := by
  rw [IntKind.wrap_i64]; omega
theorem run_makeSliceS {w0 : World} {G : Nat} {E : Env} {H H' : CH} {w : World} {P : Program} (h : WR w0 G E H w) {t : TypeId} {l l' c c' v : Value} (hl : VR E l l') (hc : VR E c c') (hs : makeSliceS P H t l c = some (v, H')) :
    ∃ F v' w', (Instr.makeSlice t l' c').run P w = .ok v' w' ∧ VR (E ++ F) v v' ∧ WR w0 G (E ++ F) H' w' := by
  unfold makeSliceS at hs
  split at hs
  case h_2 => cases hs
  rename_i kl l kc c
  cases hl.int_inv
  cases hc.int_inv
  cases hu : P.underlying t with
  | none => rw [hu] at hs; cases hs
  | some d =>
    rw [hu] at hs
    cases d with
    | slice e =>
      dsimp only at hs
      cases hi : P.info? e with
      | none => rw [hi] at hs; cases hs
      | some i =>
        rw [hi] at hs
        dsimp only at hs
        split at hs
        case isFalse => cases hs
        rename_i hq
        obtain ⟨q0, q1, q2, q3⟩ := hq
        cases hz : zerosFor P e (c.toNat * i.size) with
        | none => rw [hz] at hs; cases hs
        | some z =>
          rw [hz] at hs
          cases hs
          obtain ⟨hz1, hz2⟩ := run_zerosFor hz w
          have hwl := wrap_small q0 (by omega)
          have hwc := wrap_small (show 0 ≤ c by omega) q2
          have hti : (typeInfo e).run P w = .ok i w := by simp [typeInfo, hi]
          have hb : ¬ ((i.bytes : Int) * c > 2 ^ 48) := by
            have : (i.bytes : Int) * c ≤ 65536 * 1048576 := Int.mul_le_mul (by omega) q2 (by omega) (by omega)
            omega
          refine ⟨[⟨w.heap.size, 0, 0⟩], .slice (some ⟨w.heap.size, 0, none⟩) l.toNat c.toNat, w.alloc (.cells (zeroRow z (c.toNat * i.size)) e), ?_, VR.newSlice h ⟨w.heap.size, 0, 0⟩ _ _ 0 rfl, h.newCells (VRs.of_cleans E (cleans_zeroRow hz2 _)) e i.size⟩
          simp only [Instr.makeSlice, asInt, asIntOf, Sem.run_bind, run_underlying' hu, Result.andThen_ok, Sem.run_pure, hti, hwl, hwc]
          rw [if_neg (by
            simp only [Bool.or_eq_true, decide_eq_true_eq]
            rintro (((hh | hh) | hh) | hh)
            · omega
            · exact hb hh
            · omega
            · omega)]
          simp only [Sem.run_bind, run_askRoom, Result.andThen_ok, run_sizeOf hi]
          rcases hz1 with ⟨hn, rfl⟩ | ⟨hn, z0, hz0, rfl⟩
          · rw [if_pos hn]
            rfl
          · rw [if_neg hn]
            simp only [Sem.run_bind, hz0, Sem.run_pure, Result.andThen_ok]
            rfl
    | _ => cases hs
end Go.Ex
