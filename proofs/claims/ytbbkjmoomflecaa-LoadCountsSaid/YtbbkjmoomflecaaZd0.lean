/- Loops: the outcome of each state is told by a function. -/
import Derived.Test.YtbbkjmoomflecaaEngMem
namespace Go.Ex
open Go.RowKit
theorem loop_fin {P : Program} {G : Nat} {b : Code} {σ : Type} {N k : Nat} {st : σ → List (Nat × Value)} {hp : σ → List (CO × Bool)} (m : σ → Nat) (Good : σ → Prop) (F : σ → CX × TM × CH) {tm0 : Array Value} {H0 : CH} (ro : Option Nat) (s0 : σ) (hk : H0.length = k) (hG : G ≤ k)
    (h0 : Good s0) (hst : Restate k tm0 H0 (absT (tmL N (st s0))) (heapL ((hp s0).map (·.1))))
    (step : ∀ s, Good s → (∃ s' tm1 H1, Good s' ∧ m s' < m s ∧ F s' = F s ∧ Sound P G (.code b ro (absT (tmL N (st s))) (heapL ((hp s).map (·.1))) []) (.ex .normal tm1 H1 []) ∧ Restate k tm1 H1 (absT (tmL N (st s'))) (heapL ((hp s').map (·.1)))) ∨
      ((F s).1 ≠ .normal ∧ ∃ tm1 H1, Sound P G (.code b ro (absT (tmL N (st s))) (heapL ((hp s).map (·.1))) []) (.ex (F s).1 tm1 H1 []) ∧ Restate k tm1 H1 (absT (F s).2.1) (F s).2.2)) :
    Sound P G (.code (.loop b) ro tm0 H0 []) (.ex (F s0).1 (absT (F s0).2.1) (F s0).2.2 []) := by
  subst hk
  refine loop_sound (σ := σ) (tm := fun s => absT (tmL N (st s))) (H := fun s => heapL ((hp s).map (·.1))) m (fun s => Good s ∧ F s = F s0) ro s0 hG (fun _ h => by cases h) ⟨h0, rfl⟩ hst ?_
  intro _ s ⟨hg, hF⟩
  rcases step s hg with ⟨s', tm1, H1, g1, g2, g3, g4, g5⟩ | ⟨hx, tm1, H1, g1, g2⟩
  · exact .inl ⟨s', tm1, H1, ⟨g1, g3.trans hF⟩, g2, g4, g5⟩
  · rw [hF] at hx g1 g2
    exact .inr ⟨hx, tm1, H1, g1, g2⟩
end Go.Ex
namespace Go.Ex
open Go.RowKit
/-- a sum over the rounds -/
def accF (f : Nat → Int → Int → Int × Int) : Nat → Nat → Int → Int → Int × Int
  | 0, _, A, B => (A, B)
  | m + 1, j, A, B => accF f m (j + 1) (f j A B).1 (f j A B).2
theorem acc_loop {P : Program} {G : Nat} {b : Code} {N k : Nat} {st : Nat → List (Nat × Value)} {hp : Int → Int → List (CO × Bool)} {lF : List (Nat × Value)} {x : CX} (n : Nat) (f : Nat → Int → Int → Int × Int) (hx : x ≠ .normal)
    (hround : ∀ j A B ro, j < n → ∃ tm1 H1, Sound P G (.code b ro (absT (tmL N (st j))) (heapL ((hp A B).map (·.1))) []) (.ex .normal tm1 H1 []) ∧ Restate k tm1 H1 (absT (tmL N (st (j + 1)))) (heapL ((hp (f j A B).1 (f j A B).2).map (·.1))))
    (hend : ∀ A B ro, ∃ tm1 H1, Sound P G (.code b ro (absT (tmL N (st n))) (heapL ((hp A B).map (·.1))) []) (.ex x tm1 H1 []) ∧ Restate k tm1 H1 (absT (tmL N lF)) (heapL ((hp A B).map (·.1))))
    (ro : Option Nat) {tm0 : Array Value} {H0 : CH} (A B : Int) (hk : H0.length = k) (hG : G ≤ k) (hst : Restate k tm0 H0 (absT (tmL N (st 0))) (heapL ((hp A B).map (·.1)))) :
    Sound P G (.code (.loop b) ro tm0 H0 []) (.ex x (absT (tmL N lF)) (heapL ((hp (accF f n 0 A B).1 (accF f n 0 A B).2).map (·.1))) []) := by
  refine loop_fin (σ := Nat × Int × Int) (N := N) (k := k) (st := fun s => st s.1) (hp := fun s => hp s.2.1 s.2.2) (fun s => n - s.1) (fun s => s.1 ≤ n)
    (fun s => (x, tmL N lF, heapL ((hp (accF f (n - s.1) s.1 s.2.1 s.2.2).1 (accF f (n - s.1) s.1 s.2.1 s.2.2).2).map (·.1)))) ro (0, A, B) hk hG (Nat.zero_le _) hst ?_
  intro s hg
  obtain ⟨j, a, b'⟩ := s
  dsimp only at hg ⊢
  by_cases hj : j < n
  · obtain ⟨tm1, H1, g1, g2⟩ := hround j a b' ro hj
    refine .inl ⟨(j + 1, (f j a b').1, (f j a b').2), tm1, H1, by dsimp only; omega, by dsimp only; omega, ?_, g1, g2⟩
    dsimp only
    rw [show n - j = (n - (j + 1)) + 1 from by omega]
    rfl
  · have hjn : j = n := by omega
    subst hjn
    obtain ⟨tm1, H1, g1, g2⟩ := hend a b' ro
    refine .inr ⟨hx, tm1, H1, g1, ?_⟩
    rw [Nat.sub_self]
    exact g2
/-- a loop that ends at the first round that says so -/
def firstF (e : Nat → Int) : Nat → Nat → Int
  | 0, _ => 0
  | m + 1, j => if e j ≠ 0 then e j else firstF e m (j + 1)
theorem first_loop {P : Program} {G : Nat} {b : Code} {N k : Nat} {st : Nat → List (Nat × Value)} {hp : List (CO × Bool)} {lF : List (Nat × Value)} {lR : Int → List (Nat × Value)} {x : CX} (n : Nat) (e : Nat → Int) (hx : x ≠ .normal)
    (hround : ∀ j ro, j < n → e j = 0 → ∃ tm1 H1, Sound P G (.code b ro (absT (tmL N (st j))) (heapL (hp.map (·.1))) []) (.ex .normal tm1 H1 []) ∧ Restate k tm1 H1 (absT (tmL N (st (j + 1)))) (heapL (hp.map (·.1))))
    (hret : ∀ j ro, j < n → e j ≠ 0 → ∃ tm1 H1, Sound P G (.code b ro (absT (tmL N (st j))) (heapL (hp.map (·.1))) []) (.ex .ret tm1 H1 []) ∧ Restate k tm1 H1 (absT (tmL N (lR (e j)))) (heapL (hp.map (·.1))))
    (hend : ∀ ro, ∃ tm1 H1, Sound P G (.code b ro (absT (tmL N (st n))) (heapL (hp.map (·.1))) []) (.ex x tm1 H1 []) ∧ Restate k tm1 H1 (absT (tmL N lF)) (heapL (hp.map (·.1))))
    (ro : Option Nat) {tm0 : Array Value} {H0 : CH} (hk : H0.length = k) (hG : G ≤ k) (hst : Restate k tm0 H0 (absT (tmL N (st 0))) (heapL (hp.map (·.1)))) :
    (firstF e n 0 = 0 → Sound P G (.code (.loop b) ro tm0 H0 []) (.ex x (absT (tmL N lF)) (heapL (hp.map (·.1))) [])) ∧
    (firstF e n 0 ≠ 0 → Sound P G (.code (.loop b) ro tm0 H0 []) (.ex .ret (absT (tmL N (lR (firstF e n 0)))) (heapL (hp.map (·.1))) [])) := by
  have key := loop_fin (P := P) (G := G) (b := b) (σ := Nat) (N := N) (k := k) (st := st) (hp := fun _ => hp) (fun s => n - s) (fun s => s ≤ n)
    (fun s => (if firstF e (n - s) s = 0 then x else .ret, if firstF e (n - s) s = 0 then tmL N lF else tmL N (lR (firstF e (n - s) s)), heapL (hp.map (·.1)))) ro 0 hk hG (Nat.zero_le _) hst (by
    intro j hg
    dsimp only at hg ⊢
    by_cases hj : j < n
    · have hn : n - j = (n - (j + 1)) + 1 := by omega
      by_cases he : e j = 0
      · obtain ⟨tm1, H1, g1, g2⟩ := hround j ro hj he
        refine .inl ⟨j + 1, tm1, H1, hj, by omega, ?_, g1, g2⟩
        have : firstF e (n - j) j = firstF e (n - (j + 1)) (j + 1) := by
          rw [hn]; show (if e j ≠ 0 then _ else _) = _; rw [if_neg (by simpa using he)]
        rw [this]
      · obtain ⟨tm1, H1, g1, g2⟩ := hret j ro hj he
        have : firstF e (n - j) j = e j := by
          rw [hn]; show (if e j ≠ 0 then _ else _) = _; rw [if_pos he]
        rw [this, if_neg he, if_neg he]
        exact .inr ⟨(fun h => by cases h), tm1, H1, g1, g2⟩
    · have hjn : j = n := by omega
      subst hjn
      obtain ⟨tm1, H1, g1, g2⟩ := hend ro
      rw [Nat.sub_self]
      exact .inr ⟨hx, tm1, H1, g1, g2⟩)
  dsimp only at key
  rw [Nat.sub_zero] at key
  refine ⟨fun h => ?_, fun h => ?_⟩
  · rw [if_pos h, if_pos h] at key; exact key
  · rw [if_neg h, if_neg h] at key; exact key
theorem firstF_zero {e : Nat → Int} : ∀ (m j : Nat), firstF e m j = 0 ↔ ∀ k, j ≤ k → k < j + m → e k = 0
  | 0, j => ⟨fun _ k h1 h2 => by omega, fun _ => rfl⟩
  | m + 1, j => by
    show (if e j ≠ 0 then e j else firstF e m (j + 1)) = 0 ↔ _
    by_cases he : e j = 0
    · rw [if_neg (by simpa using he), firstF_zero m (j + 1)]
      refine ⟨fun h k h1 h2 => ?_, fun h k h1 h2 => h k (by omega) (by omega)⟩
      by_cases hk : k = j
      · subst hk; exact he
      · exact h k (by omega) (by omega)
    · rw [if_pos he]
      exact ⟨fun h => absurd h he, fun h => h j (Nat.le_refl _) (by omega)⟩
theorem firstF_congr {e e' : Nat → Int} : ∀ (m j : Nat), (∀ k, j ≤ k → k < j + m → e k = e' k) → firstF e m j = firstF e' m j
  | 0, _, _ => rfl
  | m + 1, j, h => by
    show (if e j ≠ 0 then e j else firstF e m (j + 1)) = (if e' j ≠ 0 then e' j else firstF e' m (j + 1))
    rw [h j (Nat.le_refl _) (by omega), firstF_congr m (j + 1) fun k h1 h2 => h k (by omega) (by omega)]
theorem accF_congr {f g : Nat → Int → Int → Int × Int} (Inv : Nat → Int → Int → Prop) : ∀ (m j : Nat) (A B : Int), Inv j A B → (∀ k A B, j ≤ k → k < j + m → Inv k A B → f k A B = g k A B ∧ Inv (k + 1) (f k A B).1 (f k A B).2) → accF f m j A B = accF g m j A B
  | 0, _, _, _, _, _ => rfl
  | m + 1, j, A, B, h0, h => by
    obtain ⟨h1, h2⟩ := h j A B (Nat.le_refl _) (by omega) h0
    show accF f m (j + 1) (f j A B).1 (f j A B).2 = accF g m (j + 1) (g j A B).1 (g j A B).2
    rw [← h1]
    exact accF_congr Inv m (j + 1) _ _ h2 fun k A B a b => h k A B (by omega) (by omega)
end Go.Ex
namespace Go.Ex
open Go.RowKit
theorem count_loop {P : Program} {G : Nat} {b : Code} {N k : Nat} {st : Nat → List (Nat × Value)} {hp : Nat → List (CO × Bool)} {lF : List (Nat × Value)} {x : CX} (n : Nat) (hx : x ≠ .normal)
    (hround : ∀ j ro, j < n → ∃ tm1 H1, Sound P G (.code b ro (absT (tmL N (st j))) (heapL ((hp j).map (·.1))) []) (.ex .normal tm1 H1 []) ∧ Restate k tm1 H1 (absT (tmL N (st (j + 1)))) (heapL ((hp (j + 1)).map (·.1))))
    (hend : ∀ ro, ∃ tm1 H1, Sound P G (.code b ro (absT (tmL N (st n))) (heapL ((hp n).map (·.1))) []) (.ex x tm1 H1 []) ∧ Restate k tm1 H1 (absT (tmL N lF)) (heapL ((hp n).map (·.1))))
    (ro : Option Nat) {tm0 : Array Value} {H0 : CH} (hk : H0.length = k) (hG : G ≤ k) (hst : Restate k tm0 H0 (absT (tmL N (st 0))) (heapL ((hp 0).map (·.1)))) :
    Sound P G (.code (.loop b) ro tm0 H0 []) (.ex x (absT (tmL N lF)) (heapL ((hp n).map (·.1))) []) := by
  refine loop_fin (σ := Nat) (N := N) (k := k) (st := st) (hp := hp) (fun s => n - s) (fun s => s ≤ n) (fun _ => (x, tmL N lF, heapL ((hp n).map (·.1)))) ro 0 hk hG (Nat.zero_le _) hst ?_
  intro j hg
  dsimp only at hg ⊢
  by_cases hj : j < n
  · obtain ⟨tm1, H1, g1, g2⟩ := hround j ro hj
    exact .inl ⟨j + 1, tm1, H1, hj, by omega, rfl, g1, g2⟩
  · have hjn : j = n := by omega
    subst hjn
    obtain ⟨tm1, H1, g1, g2⟩ := hend ro
    exact .inr ⟨hx, tm1, H1, g1, g2⟩
/-- a truth value of a statement -/
noncomputable def tru (p : Prop) : Bool := @decide p (Classical.propDecidable p)
theorem tru_iff {p : Prop} : tru p = true ↔ p := by unfold tru; exact @decide_eq_true_iff p (Classical.propDecidable p)
/-- a contract of a function of one slice of a list -/
noncomputable def lstE (ok : List Value → Nat → Nat → Prop) (val : List Value → Nat → Value) (gs : List Nat) (H0 : CH) : Ent := fun args H =>
  match args with
  | [.slice (some ⟨b, 0, none⟩) n c] => match H[b]? with
    | some (.cells cs _ _ _) => cond (Nat.ble gl b) (some (some (tru (ok cs n c)), val cs n, H, reqs gs H0 H)) none
    | _ => none
  | _ => none
theorem lst_ok {P : Program} {G : Nat} {f : FuncId} {ok : List Value → Nat → Nat → Prop} {val : List Value → Nat → Value} (hf : ∀ cs n c, ok cs n c → cs.all Ex.flat = true) (hc : ∀ cs n, clean 6 (val cs n) = true)
    (h : ∀ cs n c t s ex, ok cs n c → ∃ H', Sound P (gl + 1) (.call f ⟨[.slice (some ⟨gl, 0, none⟩) n c]⟩ (small1 (.cells cs t s ex))) (.val (val cs n) H')) :
    ∀ args H c v H' l, lstE ok val [] Hp.nil args H = some (c, v, H', l) → c.getD true = true → Same l → Sound P G (.call f ⟨args⟩ H) (.val v H') := by
  intro args H c v H' l he hc' _
  unfold lstE at he
  split at he
  case h_2 => cases he
  rename_i b n cp
  split at he
  case h_2 => cases he
  rename_i cs t s ex hb
  cases hg : Nat.ble gl b with
  | false => rw [hg] at he; cases he
  | true =>
    rw [hg] at he
    cases he
    have hok : ok cs n cp := tru_iff.1 hc'
    obtain ⟨H2, h2⟩ := h cs n cp t s ex hok
    exact Sound.slice1 hb (Nat.le_of_ble_eq_true hg) h2 (hc _ _) rfl (hf cs n cp hok)
theorem lst_okg {P : Program} {G : Nat} {f : FuncId} {ok : List Value → Nat → Nat → Prop} {val : List Value → Nat → Value} {gs : List Nat} {g : List CO} (hg : g.length = gl) (hgf : ∀ o ∈ g, FlatO o) (hmem : ∀ (b : Nat) (o : CO), g[b]? = some o → o.alive = true → b ∈ gs)
    (hf : ∀ cs n c, ok cs n c → cs.all Ex.flat = true) (hc : ∀ cs n, clean 6 (val cs n) = true)
    (h : ∀ cs n c t s ex, ok cs n c → ∃ H', Sound P (gl + 1) (.call f ⟨[.slice (some ⟨gl, 0, none⟩) n c]⟩ (small1g g (.cells cs t s ex))) (.val (val cs n) H')) :
    ∀ args H c v H' l, lstE ok val gs (heapL g) args H = some (c, v, H', l) → c.getD true = true → Same l → Sound P G (.call f ⟨args⟩ H) (.val v H') := by
  intro args H c v H' l he hc' hsm
  unfold lstE at he
  split at he
  case h_2 => cases he
  rename_i b n cp
  split at he
  case h_2 => cases he
  rename_i cs t s ex hb
  cases hgb : Nat.ble gl b with
  | false => rw [hgb] at he; cases he
  | true =>
    rw [hgb] at he
    cases he
    have hok : ok cs n cp := tru_iff.1 hc'
    obtain ⟨H2, h2⟩ := h cs n cp t s ex hok
    refine Sound.slice1g (g := g) hg hgf ?_ hb (Nat.le_of_ble_eq_true hgb) h2 (hc _ _) rfl (hf cs n cp hok)
    intro b' o ho ha
    have := hsm (H[b']?, (heapL g)[b']?) (List.mem_map.2 ⟨b', hmem b' o ho ha, rfl⟩)
    dsimp only at this
    rw [this, heapL_get, ho]
end Go.Ex
