/- Part of the proof. -/
import Derived.Test.YteemponkignnhaaGreatEngZr
import Derived.Test.YteemponkignnhaaGreatEngAuto
noncomputable section
namespace Go.Ex
open Go.RowKit
def blksV : Nat → Value → List Nat
  | _, .pointer (some ⟨b, _, none⟩) => [b]
  | _, .slice (some ⟨b, _, none⟩) _ _ => [b]
  | n + 1, .func (.func _) a c => a.toList.flatMap (blksV n) ++ c.toList.flatMap (blksV n)
  | n + 1, .iface _ v => blksV n v
  | n + 1, .agg a => a.toList.flatMap (blksV n)
  | n + 1, .tuple a => a.toList.flatMap (blksV n)
  | _, _ => []
def dedupB : List Nat → List Nat → List Nat
  | [], acc => acc
  | b :: r, acc => cond (memB b acc) (dedupB r acc) (dedupB r (acc ++ [b]))
def posB (b : Nat) : List Nat → Nat
  | [] => 0
  | c :: r => cond (Nat.beq b c) 0 (posB b r + 1)
theorem posB_get {b : Nat} : ∀ {l : List Nat}, memB b l = true → l[posB b l]? = some b
  | [], h => by cases h
  | c :: r, h => by
    unfold memB at h
    unfold posB
    cases hb : Nat.beq b c with
    | true => rw [Nat.eq_of_beq_eq_true hb]; rfl
    | false =>
      rw [hb] at h
      have := posB_get (l := r) h
      show (c :: r)[posB b r + 1]? = some b
      simpa using this
def absV (bs : List Nat) : Nat → Value → Value
  | _, .pointer (some ⟨b, off, none⟩) => .pointer (some ⟨gl + posB b bs, off, none⟩)
  | _, .slice (some ⟨b, off, none⟩) l c => .slice (some ⟨gl + posB b bs, off, none⟩) l c
  | n + 1, .func (.func f) a c => .func (.func f) ⟨a.toList.map (absV bs n)⟩ ⟨c.toList.map (absV bs n)⟩
  | n + 1, .iface t v => .iface t (absV bs n v)
  | n + 1, .agg a => .agg ⟨a.toList.map (absV bs n)⟩
  | n + 1, .tuple a => .tuple ⟨a.toList.map (absV bs n)⟩
  | _, v => v
def okV (bs : List Nat) : Nat → Value → Bool
  | _, .bool _ | _, .int _ _ | _, .float _ _ | _, .complex _ _ _ | _, .string _ | _, .nilFunc | _, .nilIface => true
  | _, .pointer none | _, .slice none _ _ | _, .map none | _, .chan none => true
  | _, .pointer (some ⟨b, _, none⟩) => memB b bs
  | _, .slice (some ⟨b, _, none⟩) _ _ => memB b bs
  | n + 1, .func (.func _) a c => a.toList.all (okV bs n) && c.toList.all (okV bs n)
  | n + 1, .iface _ v => okV bs n v
  | n + 1, .agg a => a.toList.all (okV bs n)
  | n + 1, .tuple a => a.toList.all (okV bs n)
  | _, _ => false
theorem getD_pos {bs : List Nat} {b : Nat} (h : memB b bs = true) : (List.range gl ++ bs).getD (gl + posB b bs) 0 = b ∧ Nat.blt (gl + posB b bs) (List.range gl ++ bs).length = true := by
  have hg := posB_get h
  have h1 : (List.range gl ++ bs)[gl + posB b bs]? = some b := by
    rw [List.getElem?_append_right (by simp)]
    simpa using hg
  refine ⟨by rw [List.getD_eq_getElem?_getD, h1]; rfl, ?_⟩
  rw [blt_eq, decide_eq_true_eq]
  exact (List.getElem?_eq_some_iff.1 h1).1
def GoodV (bs : List Nat) (n : Nat) (v : Value) : Prop := renOk (List.range gl ++ bs) n (absV bs n v) = true ∧ ren (List.range gl ++ bs) n (absV bs n v) = v
theorem absL_ok {bs : List Nat} {n : Nat} (ih : ∀ v, okV bs n v = true → GoodV bs n v) : ∀ {l : List Value}, l.all (okV bs n) = true → ((l.map (absV bs n)).all (renOk (List.range gl ++ bs) n) = true ∧ (l.map (absV bs n)).map (ren (List.range gl ++ bs) n) = l)
  | [], _ => ⟨rfl, rfl⟩
  | v :: r, h => by
    rw [List.all_cons, Bool.and_eq_true] at h
    obtain ⟨h1, h2⟩ := ih v h.1
    obtain ⟨h3, h4⟩ := absL_ok ih h.2
    refine ⟨?_, ?_⟩
    · rw [List.map_cons, List.all_cons, h1, h3]; rfl
    · rw [List.map_cons, List.map_cons, h2, h4]
theorem absA_ok {bs : List Nat} {n : Nat} (ih : ∀ v, okV bs n v = true → GoodV bs n v) {a : Array Value} (h : a.toList.all (okV bs n) = true) :
    ((⟨a.toList.map (absV bs n)⟩ : Array Value).toList.all (renOk (List.range gl ++ bs) n) = true ∧ (⟨(⟨a.toList.map (absV bs n)⟩ : Array Value).toList.map (ren (List.range gl ++ bs) n)⟩ : Array Value) = a) := by
  obtain ⟨h1, h2⟩ := absL_ok ih h
  exact ⟨h1, by show (⟨(a.toList.map (absV bs n)).map _⟩ : Array Value) = a; rw [h2]⟩
theorem absV_ok {bs : List Nat} : ∀ (n : Nat) (v : Value), okV bs n v = true → GoodV bs n v := by
  have key : ∀ (n : Nat), (∀ m, n = m + 1 → ∀ v, okV bs m v = true → GoodV bs m v) → ∀ v, okV bs n v = true → GoodV bs n v := by
    intro n ih v h
    unfold GoodV
    cases v with
    | bool b => cases n <;> exact ⟨rfl, rfl⟩
    | int k z => cases n <;> exact ⟨rfl, rfl⟩
    | float k z => cases n <;> exact ⟨rfl, rfl⟩
    | complex k y z => cases n <;> exact ⟨rfl, rfl⟩
    | string s => cases n <;> exact ⟨rfl, rfl⟩
    | nilFunc => cases n <;> exact ⟨rfl, rfl⟩
    | nilIface => cases n <;> exact ⟨rfl, rfl⟩
    | pointer a =>
      cases a with
      | none => cases n <;> exact ⟨rfl, rfl⟩
      | some a =>
        obtain ⟨b, off, spot⟩ := a
        cases spot with
        | none =>
          have hb : memB b bs = true := by cases n <;> exact h
          obtain ⟨g1, g2⟩ := getD_pos hb
          cases n
          · exact ⟨g2, by show Value.pointer (some ⟨(List.range gl ++ bs).getD (gl + posB b bs) 0, off, none⟩) = _; rw [g1]⟩
          · exact ⟨g2, by show Value.pointer (some ⟨(List.range gl ++ bs).getD (gl + posB b bs) 0, off, none⟩) = _; rw [g1]⟩
        | some s => cases n <;> cases h
    | slice a l c =>
      cases a with
      | none => cases n <;> exact ⟨rfl, rfl⟩
      | some a =>
        obtain ⟨b, off, spot⟩ := a
        cases spot with
        | none =>
          have hb : memB b bs = true := by cases n <;> exact h
          obtain ⟨g1, g2⟩ := getD_pos hb
          cases n
          · exact ⟨g2, by show Value.slice (some ⟨(List.range gl ++ bs).getD (gl + posB b bs) 0, off, none⟩) l c = _; rw [g1]⟩
          · exact ⟨g2, by show Value.slice (some ⟨(List.range gl ++ bs).getD (gl + posB b bs) 0, off, none⟩) l c = _; rw [g1]⟩
        | some s => cases n <;> cases h
    | map r =>
      cases r with
      | none => cases n <;> exact ⟨rfl, rfl⟩
      | some b => cases n <;> cases h
    | chan r =>
      cases r with
      | none => cases n <;> exact ⟨rfl, rfl⟩
      | some b => cases n <;> cases h
    | func fn a c =>
      cases fn with
      | func f =>
        cases n with
        | zero => cases h
        | succ m =>
          have h' : (a.toList.all (okV bs m) && c.toList.all (okV bs m)) = true := h
          rw [Bool.and_eq_true] at h'
          obtain ⟨h1, h2⟩ := absA_ok (ih m rfl) h'.1
          obtain ⟨h3, h4⟩ := absA_ok (ih m rfl) h'.2
          refine ⟨?_, ?_⟩
          · show (_ && _) = true
            rw [h1, h3]; rfl
          · show Value.func (.func f) _ _ = _
            rw [h2, h4]
      | _ => cases n <;> cases h
    | iface t v =>
      cases n with
      | zero => cases h
      | succ m =>
        obtain ⟨h1, h2⟩ := ih m rfl v h
        refine ⟨h1, ?_⟩
        show Value.iface t _ = _
        rw [h2]
    | agg a =>
      cases n with
      | zero => cases h
      | succ m =>
        obtain ⟨h1, h2⟩ := absA_ok (ih m rfl) h
        refine ⟨h1, ?_⟩
        show Value.agg _ = _
        rw [h2]
    | tuple a =>
      cases n with
      | zero => cases h
      | succ m =>
        obtain ⟨h1, h2⟩ := absA_ok (ih m rfl) h
        refine ⟨h1, ?_⟩
        show Value.tuple _ = _
        rw [h2]
  intro n
  induction n with
  | zero => exact key 0 (fun m hm => by cases hm)
  | succ n ih => exact key (n + 1) (fun m hm => by cases hm; exact ih)
theorem Blks.len {css : List (List Value)} {os : List CO} (h : Blks css os) : css.length = os.length := by
  induction h with
  | nil => rfl
  | cons _ ih => simp [ih]
abbrev ESpec := List Value → List (List Value) → Option (Prop × Value)
noncomputable def autoV (gs : List Nat) (H0 H : CH) (r : Option (Prop × Value)) : Option (Option Bool × Value × CH × List (Option CO × Option CO)) :=
  match r with
  | some x => some (some (tru x.1), x.2, H, reqs gs H0 H)
  | none => none
noncomputable def autoE (spec : ESpec) (gs : List Nat) (H0 : CH) : Ent := fun args H =>
  match cellsOf H (dedupB (args.flatMap (blksV 8)) []) with
  | some css => cond (okBs (dedupB (args.flatMap (blksV 8)) []) && (Nat.ble gl H.length && args.all (okV (dedupB (args.flatMap (blksV 8)) []) 8))) (autoV gs H0 H (spec (args.map (absV (dedupB (args.flatMap (blksV 8)) []) 8)) css)) none
  | none => none
theorem auto_ok {P : Program} {G : Nat} {f : FuncId} {spec : ESpec} {gs : List Nat} {g : List CO} (hg : g.length = gl) (hgf : ∀ o ∈ g, FlatO o) (hmem : ∀ (b : Nat) (o : CO), g[b]? = some o → o.alive = true → b ∈ gs)
    (h : ∀ al css os p v, spec al css = some (p, v) → p → Blks css os → (∀ cs ∈ css, cs.all Ex.flat = true) ∧ clean 6 v = true ∧ ∃ H', Sound P (gl + css.length) (.call f ⟨al⟩ (heapL (g ++ os))) (.val v H')) :
    ∀ args H c v H' l, autoE spec gs (heapL g) args H = some (c, v, H', l) → c.getD true = true → Same l → Sound P G (.call f ⟨args⟩ H) (.val v H') := by
  intro args H c v H' l he hc' hsm
  unfold autoE at he
  generalize dedupB (args.flatMap (blksV 8)) [] = bs at he
  split at he
  case h_2 => cases he
  rename_i css hcs
  cases hgb : okBs bs && (Nat.ble gl H.length && args.all (okV bs 8)) with
  | false => rw [hgb] at he; cases he
  | true =>
    rw [hgb] at he
    have he' : autoV gs (heapL g) H (spec (args.map (absV bs 8)) css) = some (c, v, H', l) := he
    unfold autoV at he'
    split at he'
    case h_2 => cases he'
    rename_i x hx
    cases he'
    obtain ⟨p, v'⟩ := x
    simp only [Bool.and_eq_true] at hgb
    obtain ⟨g1, g2, g3⟩ := hgb
    have hok : p := tru_iff.1 hc'
    obtain ⟨os, o1, o2, o3⟩ := cellsOf_blks bs css hcs
    obtain ⟨r1, r2⟩ := absL_ok (fun v hv => absV_ok 8 v hv) g3
    obtain ⟨h1, h2, H2, h3⟩ := h _ css os p v' hx hok o1
    have hcl : css.length = os.length := o1.len
    refine Sound.blocks (Hs' := H2) (g := g) (os := os) (bs := bs) (al := args.map (absV bs 8)) hg hgf ?_ g1 o2 (o1.flat h1) o3 r1 r2.symm ?_ h2 (Nat.le_of_ble_eq_true g2)
    · intro b o ho ha
      have := hsm (H[b]?, (heapL g)[b]?) (List.mem_map.2 ⟨b, hmem b o ho ha, rfl⟩)
      dsimp only at this
      rw [this, heapL_get, ho]
    · have : (heapL (g ++ os)).length = gl + css.length := by rw [heapL_len]; simp [hg, hcl]
      rw [this]; exact h3
theorem blks1 {cs : List Value} {os : List CO} (h : Blks [cs] os) : ∃ t s ex, os = [.cells cs t s ex] := by
  cases h with
  | cons h => cases h; exact ⟨_, _, _, rfl⟩
theorem TSound.auto {P : Program} {G : Nat} {T : Tb} {f : FuncId} {spec : ESpec} (hT : TSound P G T)
    (h : ∀ al css os p v, spec al css = some (p, v) → p → Blks css os → (∀ cs ∈ css, cs.all Ex.flat = true) ∧ clean 6 v = true ∧ ∃ H', Sound P (gl + css.length) (.call f ⟨al⟩ (heapL (deads ++ os))) (.val v H')) (hf : f % 1000000 = f := by rfl) :
    TSound P G (Ex.ext T f (autoE spec [] (heapL deads))) := hT.ext (auto_ok deads_len deads_flat deads_mem h) hf
abbrev ESpec0 := List Value → List (List Value) → Option Value
end Go.Ex
/- Engine, part 43: what runs of rounds come to. -/
noncomputable section
namespace Go.Ex
variable {σ : Type}
theorem run_first {step : σ → SS σ} {e : Nat → Int} {st : Nat → σ} {a : Nat} {b : Nat → Nat} (n : Nat) (h1 : ∀ j, j < n → e j = 0 → (step (st j)).sel = some (.inl (st (j + 1)))) (h2 : ∀ j, j < n → e j ≠ 0 → (step (st j)).sel = some (.inr (b j)))
    (h3 : (step (st n)).sel = some (.inr a)) : ∃ r, runS step (n + 1) (st 0) = some r ∧ ((firstF e n 0 = 0 ∧ r = (a, st n)) ∨ (firstF e n 0 ≠ 0 ∧ ∃ j, j < n ∧ r = (b j, st j) ∧ e j = firstF e n 0 ∧ ∀ k, k < j → e k = 0)) := by
  have key : ∀ m j, j + m = n → (∀ k, k < j → e k = 0) → ∃ r, runS step (m + 1) (st j) = some r ∧ ((firstF e m j = 0 ∧ r = (a, st n)) ∨ (firstF e m j ≠ 0 ∧ ∃ k, k < n ∧ r = (b k, st k) ∧ e k = firstF e m j ∧ ∀ k', k' < k → e k' = 0)) := by
    intro m
    induction m with
    | zero =>
      intro j hj _
      have : j = n := by omega
      subst this
      exact ⟨_, runS_done h3, .inl ⟨rfl, rfl⟩⟩
    | succ m ih =>
      intro j hj hz
      by_cases he : e j = 0
      · rw [runS_next (h1 j (by omega) he)]
        have : firstF e (m + 1) j = firstF e m (j + 1) := by
          show (if e j ≠ 0 then _ else _) = _
          rw [if_neg (by simpa using he)]
        rw [this]
        refine ih (j + 1) (by omega) fun k hk => ?_
        by_cases hkj : k = j
        · subst hkj; exact he
        · exact hz k (by omega)
      · have : firstF e (m + 1) j = e j := by
          show (if e j ≠ 0 then _ else _) = _
          rw [if_pos he]
        rw [this]
        exact ⟨_, runS_done (h2 j (by omega) he), .inr ⟨he, j, by omega, rfl, rfl, hz⟩⟩
  obtain ⟨r, g1, g2⟩ := key n 0 (by omega) (fun k hk => by omega)
  exact ⟨r, g1, g2⟩
theorem run_all {step : σ → SS σ} {st : Nat → σ} {a : Nat} (n : Nat) (h1 : ∀ j, j < n → (step (st j)).sel = some (.inl (st (j + 1)))) (h3 : (step (st n)).sel = some (.inr a)) : runS step (n + 1) (st 0) = some (a, st n) := by
  have key : ∀ m j, j + m = n → runS step (m + 1) (st j) = some (a, st n) := by
    intro m
    induction m with
    | zero =>
      intro j hj
      have : j = n := by omega
      subst this
      exact runS_done h3
    | succ m ih =>
      intro j hj
      rw [runS_next (h1 j (by omega))]
      exact ih (j + 1) (by omega)
  exact key n 0 (by omega)
end Go.Ex
