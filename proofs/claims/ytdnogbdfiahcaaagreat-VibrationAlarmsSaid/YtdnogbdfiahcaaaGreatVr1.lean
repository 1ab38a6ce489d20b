import Derived.Test.YtdnogbdfiahcaaaGreatEngEnt
import Derived.Test.YtdnogbdfiahcaaaGreatProg
import Derived.WalkKit
namespace Go.Proofs.YtdnogbdfiahcaaaGreat.Ways
open Go Go.Ex Go.RowKit
def i (n : Int) : Value := .int .i64 n
def b_ (b : Bool) : Value := .bool b
def sl (b o l k : Nat) : Value := .slice (some ⟨b, o, none⟩) l k
def pt (b o : Nat) : Value := .pointer (some ⟨b, o, none⟩)
def ag (l : List Value) : Value := .agg ⟨l⟩
def tp (l : List Value) : Value := .tuple ⟨l⟩
def fn (f : Nat) : Value := .func (.func f) #[] #[]
def fnc (f : Nat) (c : List Value) : Value := .func (.func f) #[] ⟨c⟩
def on_ (l : List (Nat × Nat)) (f d : Nat) : Bool := l.any fun x => Nat.beq x.1 f && Nat.beq x.2 d
def at_ (l : List (Nat × Nat)) (s : Split) (rest : Nat → Nat → Split) (f d : Nat) : Split := cond (l.any fun x => Nat.beq x.1 f && Nat.beq x.2 d) s (rest f d)
def no_ (_ _ : Nat) : Split := .no
def off_ (_ _ : Nat) : Bool := false
noncomputable def Hd : CH := Hp.nil.push .dead
noncomputable def C1 : Cfg := ⟨noT, at_ [(47, 9), (88, 5), (50, 9), (50, 14), (6, 4)] .bool no_, off_, noL⟩
end Go.Proofs.YtdnogbdfiahcaaaGreat.Ways
namespace Go.Proofs.YtdnogbdfiahcaaaGreat.Ways
open Go Go.Ex Go.RowKit
theorem wrapF_in {n : Int} (h1 : -9223372036854775808 ≤ n) (h2 : n ≤ 9223372036854775807) : wrapF .i64 n = n := by
  rw [wrapF_eq, IntKind.wrap_i64]; omega
theorem eqF_d (a b : Int) : eqF a b = decide (a = b) := by
  rw [eqF_eq, Bool.eq_iff_iff]; simp
theorem hd_len : Hd.length = 1 := rfl
theorem hd_dead : AllDead Hd := by
  intro b o h
  have hb : b < 1 := Hp.lt h
  match b, hb with
  | 0, _ =>
    have := Option.some.inj (h.symm.trans (rfl : Hd[0]? = some .dead))
    rw [this]; rfl
theorem hd_vars : Vars Hd [] := .of_dead rfl hd_dead
def rgE (x lo hi : Int) : Int := if lo ≤ x ∧ x ≤ hi then 0 else 3
def mnE (x m : Int) : Int := if x ≤ m then 0 else 5
def fewB (x : Int) : Bool := decide (x ≤ 64 ∨ x = 1025)
theorem p47 (x lo hi : Int) : Pure Tryz.prog Hd 47 [i x, i lo, i hi] (i (rgE x lo hi)) := by
  refine pure_run (C := C1) (G := 1) 30 (.br (leF lo x) (.br (leF x hi) (.leaf (i 0)) (.leaf (i 3))) (.br (false) (.leaf (i 0)) (.leaf (i 3)))) .none .none (by decide) hd_len rfl (by kernel_rfl) (by kernel_rfl) ?_
  unfold rgE
  by_cases h1 : lo ≤ x <;> by_cases h2 : x ≤ hi <;> simp [VT.sel, leF_eq, h1, h2]
theorem p50 (x lo hi : Int) : Pure Tryz.prog Hd 50 [i x, i lo, i hi] (i (rgE x lo hi)) := by
  refine pure_run (C := C1) (G := 1) 30 (.br (ltF x lo) (.br (true) (.leaf (i 3)) (.leaf (i 0))) (.br (ltF hi x) (.leaf (i 3)) (.leaf (i 0)))) .none .none (by decide) hd_len rfl (by kernel_rfl) (by kernel_rfl) ?_
  unfold rgE
  by_cases h1 : x < lo
  · have : ¬ lo ≤ x := by omega
    simp [VT.sel, ltF_eq, h1, this]
  · by_cases h2 : hi < x
    · have h3 : ¬ x ≤ hi := by omega
      simp [VT.sel, ltF_eq, h1, h2, h3]
    · have h3 : lo ≤ x ∧ x ≤ hi := by omega
      simp [VT.sel, ltF_eq, h1, h2, h3]
theorem p45 (x m : Int) : Pure Tryz.prog Hd 45 [i x, i m] (i (mnE x m)) := by
  refine pure_run (C := C1) (G := 1) 30 (.br (leF x m) (.leaf (i 0)) (.leaf (i 5))) .none .none (by decide) hd_len rfl (by kernel_rfl) (by kernel_rfl) ?_
  unfold mnE
  by_cases h1 : x ≤ m <;> simp [VT.sel, leF_eq, h1]
theorem p87 (b : Bool) : Pure Tryz.prog Hd 87 [b_ b] (i (cond b 0 11)) := by
  refine pure_run (C := C1) (G := 1) 30 (.br b (.leaf (i 0)) (.leaf (i 11))) .none .none (by decide) hd_len rfl (by kernel_rfl) (by kernel_rfl) ?_
  cases b <;> rfl
theorem p6 (x : Int) : Pure Tryz.prog Hd 6 [i x] (b_ (fewB x)) := by
  refine pure_run (C := C1) (G := 1) 30 (.br (leF x 64) (.leaf (.bool true)) (.leaf (.bool (eqF x 1025)))) .none .none (by decide) hd_len rfl (by kernel_rfl) (by kernel_rfl) ?_
  unfold fewB b_
  by_cases h1 : x ≤ 64 <;> simp [VT.sel, leF_eq, eqF_d, h1]
def s3 : List Value → Option Value
  | [.int .i64 x, .int .i64 lo, .int .i64 hi] => some (i (rgE x lo hi))
  | _ => none
def s45 : List Value → Option Value
  | [.int .i64 x, .int .i64 m] => some (i (mnE x m))
  | _ => none
def s87 : List Value → Option Value
  | [.bool b] => some (i (cond b 0 11))
  | _ => none
def s6 : List Value → Option Value
  | [.int .i64 x] => some (b_ (fewB x))
  | _ => none
noncomputable def T1 : Tb := ext (ext (ext (ext (ext noT 47 (pureE s3 [] Hd)) 50 (pureE s3 [] Hd)) 45 (pureE s45 [] Hd)) 87 (pureE s87 [] Hd)) 6 (pureE s6 [] Hd)
theorem ts1 {G : Nat} : TSound Tryz.prog G T1 := by
  refine (((((TSound.none.pure hd_vars fun args v h => ?_).pure hd_vars fun args v h => ?_).pure hd_vars fun args v h => ?_).pure hd_vars fun args v h => ?_).pure hd_vars fun args v h => ?_)
  · unfold s3 at h
    split at h
    · cases h; exact p47 _ _ _
    · cases h
  · unfold s3 at h
    split at h
    · cases h; exact p50 _ _ _
    · cases h
  · unfold s45 at h
    split at h
    · cases h; exact p45 _ _
    · cases h
  · unfold s87 at h
    split at h
    · cases h; exact p87 _
    · cases h
  · unfold s6 at h
    split at h
    · cases h; exact p6 _
    · cases h
end Go.Proofs.YtdnogbdfiahcaaaGreat.Ways
namespace Go.Proofs.YtdnogbdfiahcaaaGreat.Ways
open Go Go.Ex Go.RowKit
/-- a list of integers -/
def eI (cs : List Value) (j : Nat) : Int := intO cs[0 + j * 1]?
def okI (cs : List Value) (n c : Nat) : Prop := cs.all Ex.flat = true ∧ n ≤ c ∧ n < 4000000000000000000 ∧ ∀ j, j < n → isCellB (.i .i64) cs[0 + j * 1]? = true
def bnd_ (n : Int) (len cap : Nat) : Bool := leF 0 n && (ltF n len && decide (len ≤ cap))
theorem bnd_t {j len cap : Nat} (h : j < len) (hc : len ≤ cap) : bnd_ (j : Int) len cap = true := by
  unfold bnd_
  rw [leF_eq, ltF_eq, decide_eq_true (by omega), decide_eq_true (by omega), decide_eq_true hc]; rfl
theorem wsucc {j : Nat} (h : j < 4000000000000000000) : wrapF .i64 ((j : Int) + 1) = ((j + 1 : Nat) : Int) := by rw [wrapF_in (by omega) (by omega)]; rfl
noncomputable def B43 : Code := bodyL Tryz.f43 2
noncomputable def B11 : Code := bodyL Tryz.f11 2
noncomputable def sp2 : Nat → Nat → Split := at_ [(43, 8), (43, 12), (11, 7), (11, 14)] .bool no_
def sy2 : Nat → Nat → Bool := on_ [(43, 9), (43, 10), (11, 12), (11, 13), (11, 17), (11, 18)]
noncomputable def C2 : Cfg := ⟨T1, sp2, sy2, noL⟩
section
variable (cs : List Value) (t s len cap : Nat) (ex : Bool)
def hpI : List (CO × Bool) := [(.dead, false), (.cells cs t s ex, true)]
theorem hpI_flat {cs : List Value} {t s : Nat} {ex : Bool} (h : cs.all Ex.flat = true) : ∀ o, (o, true) ∈ hpI cs t s ex → FlatO o := by
  intro o ho
  simp [hpI] at ho
  subst ho
  exact fun x hx => List.all_eq_true.1 h x hx
def cB (k : CK) (n : Int) : Bool := isCellB k cs[0 + n.toNat * 1]?
def S43 : Shape Int := ⟨15, fun n => ⟨[(5, sl 1 0 len cap), (6, i len), (7, i n)], hpI cs t s ex⟩, fun j n => match j with
  | 0 => (.exit 0, ⟨[], hpI cs t s ex⟩)
  | _ => (.ret, ⟨[(2, i (eI cs n.toNat))], hpI cs t s ex⟩)⟩
def st43 (n : Int) : SS Int := .br (ltF n len) (askS (bnd_ n len cap) <| askS (cB cs (.i .i64) n) <| .br (!eqF (eI cs n.toNat) 0) (.done 2 [0, 1] 1) (.next 2 [0, 1] (wrapF .i64 (n + 1)))) (.done 2 [0, 1] 0)
def S11 : Shape Int := ⟨19, fun n => ⟨[(0, sl 1 0 len cap), (3, i n)], hpI cs t s ex⟩, fun j n => match j with
  | 0 => (.exit 0, ⟨[], hpI cs t s ex⟩)
  | _ => (.ret, ⟨[(2, i (eI cs n.toNat))], hpI cs t s ex⟩)⟩
def st11 (n : Int) : SS Int := .br (ltF n len) (askS (bnd_ n len cap) <| askS (cB cs (.i .i64) n) <| .br (!eqF (eI cs n.toNat) 0) (askS (bnd_ n len cap) <| askS (cB cs (.i .i64) n) <| .done 2 [0, 1] 1) (.next 2 [0, 1] (wrapF .i64 (n + 1)))) (.done 2 [0, 1] 0)
end
section
variable {cs : List Value} {t s len cap : Nat} {ex : Bool}
theorem L43 (h : cs.all Ex.flat = true) : Loop1 Tryz.prog 2 43 B43 (S43 cs t s len cap ex) 2 (st43 cs len cap) (fun _ => True) :=
  .mk' (C := fun _ => C2) (n := 40) (fun _ _ => ts1) (fun _ _ => .none) (fun s ro _ => by kernel_rfl) (fun s ro _ => by kernel_rfl) (fun s => by kernel_rfl) (fun _ _ _ _ => trivial) (fun _ _ => hpI_flat h)
    (fun s j _ _ => by cases j <;> exact ⟨hpI_flat h, fun h => by cases h⟩)
theorem L11 (h : cs.all Ex.flat = true) : Loop1 Tryz.prog 2 11 B11 (S11 cs t s len cap ex) 2 (st11 cs len cap) (fun _ => True) :=
  .mk' (C := fun _ => C2) (n := 40) (fun _ _ => ts1) (fun _ _ => .none) (fun s ro _ => by kernel_rfl) (fun s ro _ => by kernel_rfl) (fun s => by kernel_rfl) (fun _ _ _ _ => trivial) (fun _ _ => hpI_flat h)
    (fun s j _ _ => by cases j <;> exact ⟨hpI_flat h, fun h => by cases h⟩)
theorem run43 (h : okI cs len cap) : ∃ r, runS (st43 cs len cap) (len + 1) 0 = some r ∧ ((firstF (eI cs) len 0 = 0 ∧ r = (0, (len : Int))) ∨ (firstF (eI cs) len 0 ≠ 0 ∧ ∃ j : Nat, j < len ∧ r = (1, (j : Int)) ∧ eI cs j = firstF (eI cs) len 0 ∧ ∀ k, k < j → eI cs k = 0)) := by
  obtain ⟨_, hc, hl, hk⟩ := h
  refine run_first (st := fun j => ((j : Nat) : Int)) (e := eI cs) (a := 0) (b := fun _ => 1) len (fun j hj he => ?_) (fun j hj he => ?_) ?_
  · unfold st43
    rw [br_t (by rw [ltF_eq]; simpa using hj), askS_sel (bnd_t hj hc), askS_sel (by exact hk j hj), br_f (by rw [eqF_d]; simp [he]), wsucc (by omega)]; rfl
  · unfold st43
    rw [br_t (by rw [ltF_eq]; simpa using hj), askS_sel (bnd_t hj hc), askS_sel (by exact hk j hj), br_t (by rw [eqF_d]; simp [he])]; rfl
  · unfold st43
    rw [br_f (by rw [ltF_eq]; simp)]; rfl
theorem run11 (h : okI cs len cap) : ∃ r, runS (st11 cs len cap) (len + 1) 0 = some r ∧ ((firstF (eI cs) len 0 = 0 ∧ r = (0, (len : Int))) ∨ (firstF (eI cs) len 0 ≠ 0 ∧ ∃ j : Nat, j < len ∧ r = (1, (j : Int)) ∧ eI cs j = firstF (eI cs) len 0 ∧ ∀ k, k < j → eI cs k = 0)) := by
  obtain ⟨_, hc, hl, hk⟩ := h
  refine run_first (st := fun j => ((j : Nat) : Int)) (e := eI cs) (a := 0) (b := fun _ => 1) len (fun j hj he => ?_) (fun j hj he => ?_) ?_
  · unfold st11
    rw [br_t (by rw [ltF_eq]; simpa using hj), askS_sel (bnd_t hj hc), askS_sel (by exact hk j hj), br_f (by rw [eqF_d]; simp [he]), wsucc (by omega)]; rfl
  · unfold st11
    rw [br_t (by rw [ltF_eq]; simpa using hj), askS_sel (bnd_t hj hc), askS_sel (by exact hk j hj), br_t (by rw [eqF_d]; simp [he]), askS_sel (bnd_t hj hc), askS_sel (by exact hk j hj)]; rfl
  · unfold st11
    rw [br_f (by rw [ltF_eq]; simp)]; rfl
end
end Go.Proofs.YtdnogbdfiahcaaaGreat.Ways
namespace Go.Proofs.YtdnogbdfiahcaaaGreat.Ways
open Go Go.Ex Go.RowKit
def sp43 : ESpec := fun al css => match al, css with
  | [.slice (some ⟨1, 0, none⟩) n c], [cs] => some (okI cs n c, i (firstF (eI cs) n 0))
  | _, _ => none
section
variable (cs : List Value) (t s len cap : Nat) (ex : Bool)
noncomputable def K43 (r : Nat × Int) : Cfg := ⟨T1, sp2, sy2, loopE noL 43 2 15 2 B43 ((S43 cs t s len cap ex).st 0).live ((S43 cs t s len cap ex).st 0).hp (finO (S43 cs t s len cap ex) r [0, 1])⟩
noncomputable def K11 (r : Nat × Int) : Cfg := ⟨T1, sp2, sy2, loopE noL 11 2 19 2 B11 ((S11 cs t s len cap ex).st 0).live ((S11 cs t s len cap ex).st 0).hp (finO (S11 cs t s len cap ex) r [0, 1])⟩
def vt1 (r : Nat × Int) : VT := .br (Nat.beq r.1 0) (.leaf (i 0)) (.br (Nat.beq r.1 1) (.leaf (i (eI cs r.2.toNat))) .fail)
theorem v43 (r : Nat × Int) : (execO Tryz.prog 2 (K43 cs t s len cap ex r) 40 (.call 43 ⟨[sl 1 0 len cap]⟩ (heapL [.dead, .cells cs t s ex]))).vals = vt1 cs r := by kernel_rfl
theorem x43 (r : Nat × Int) : execO Tryz.prog 2 (K43 cs t s len cap ex r) 40 (.call 43 ⟨[sl 1 0 len cap]⟩ (heapL [.dead, .cells cs t s ex])) = (execO Tryz.prog 2 (K43 cs t s len cap ex r) 40 (.call 43 ⟨[sl 1 0 len cap]⟩ (heapL [.dead, .cells cs t s ex]))).fix := by kernel_rfl
theorem v11 (r : Nat × Int) : (execO Tryz.prog 2 (K11 cs t s len cap ex r) 40 (.call 11 ⟨[sl 1 0 len cap]⟩ (heapL [.dead, .cells cs t s ex]))).vals = vt1 cs r := by kernel_rfl
theorem x11 (r : Nat × Int) : execO Tryz.prog 2 (K11 cs t s len cap ex r) 40 (.call 11 ⟨[sl 1 0 len cap]⟩ (heapL [.dead, .cells cs t s ex])) = (execO Tryz.prog 2 (K11 cs t s len cap ex r) 40 (.call 11 ⟨[sl 1 0 len cap]⟩ (heapL [.dead, .cells cs t s ex]))).fix := by kernel_rfl
end
theorem vt1_sel {cs : List Value} {len : Nat} {r : Nat × Int} (h : (firstF (eI cs) len 0 = 0 ∧ r = (0, (len : Int))) ∨ (firstF (eI cs) len 0 ≠ 0 ∧ ∃ j : Nat, j < len ∧ r = (1, (j : Int)) ∧ eI cs j = firstF (eI cs) len 0 ∧ ∀ k, k < j → eI cs k = 0)) : (vt1 cs r).sel = some (i (firstF (eI cs) len 0)) := by
  rcases h with ⟨h1, rfl⟩ | ⟨_, j, _, rfl, h2, _⟩
  · rw [h1]; rfl
  · rw [← h2]; rfl
theorem c43 : ∀ al css os p v, sp43 al css = some (p, v) → p → Blks css os → (∀ cs ∈ css, cs.all Ex.flat = true) ∧ clean 6 v = true ∧ ∃ H', Sound Tryz.prog (gl + css.length) (.call 43 ⟨al⟩ (heapL (deads ++ os))) (.val v H') := by
  intro al css os p v hs hp hb
  unfold sp43 at hs
  split at hs
  case h_2 => cases hs
  rename_i n c cs
  cases hs
  obtain ⟨t, s, ex, rfl⟩ := blks1 hb
  refine ⟨by simpa using hp.1, rfl, ?_⟩
  obtain ⟨r, hr, hv⟩ := run43 hp
  have hL := (L43 (t := t) (s := s) (len := n) (cap := c) (ex := ex) hp.1).table (id := 2) .none (by decide) trivial hr (by kernel_rfl) [0, 1]
  obtain ⟨H', h'⟩ := Out.vals_sel (x43 cs t s n c ex r) (v := i (firstF (eI cs) n 0)) (by rw [v43]; exact vt1_sel hv)
  exact ⟨H', execO_sound (C := K43 cs t s n c ex r) ts1 hL 40 _ _ h'⟩
theorem c11 : ∀ al css os p v, sp43 al css = some (p, v) → p → Blks css os → (∀ cs ∈ css, cs.all Ex.flat = true) ∧ clean 6 v = true ∧ ∃ H', Sound Tryz.prog (gl + css.length) (.call 11 ⟨al⟩ (heapL (deads ++ os))) (.val v H') := by
  intro al css os p v hs hp hb
  unfold sp43 at hs
  split at hs
  case h_2 => cases hs
  rename_i n c cs
  cases hs
  obtain ⟨t, s, ex, rfl⟩ := blks1 hb
  refine ⟨by simpa using hp.1, rfl, ?_⟩
  obtain ⟨r, hr, hv⟩ := run11 hp
  have hL := (L11 (t := t) (s := s) (len := n) (cap := c) (ex := ex) hp.1).table (id := 2) .none (by decide) trivial hr (by kernel_rfl) [0, 1]
  obtain ⟨H', h'⟩ := Out.vals_sel (x11 cs t s n c ex r) (v := i (firstF (eI cs) n 0)) (by rw [v11]; exact vt1_sel hv)
  exact ⟨H', execO_sound (C := K11 cs t s n c ex r) ts1 hL 40 _ _ h'⟩
noncomputable def T2 : Tb := ext (ext T1 43 (autoE sp43 [] (heapL deads))) 11 (autoE sp43 [] (heapL deads))
theorem ts2 {G : Nat} : TSound Tryz.prog G T2 := (ts1.auto c43).auto c11
end Go.Proofs.YtdnogbdfiahcaaaGreat.Ways
namespace Go.Proofs.YtdnogbdfiahcaaaGreat.Ways
open Go Go.Ex Go.RowKit
/-! ### small lists of errors -/
def fst2 (a b : Int) : Int := firstF (eI [i a, i b]) 2 0
def fst3 (a b c : Int) : Int := firstF (eI [i a, i b, i c]) 3 0
def fst4 (a b c d : Int) : Int := firstF (eI [i a, i b, i c, i d]) 4 0
theorem fst2_eq (a b : Int) : fst2 a b = if a ≠ 0 then a else if b ≠ 0 then b else 0 := rfl
theorem fst3_eq (a b c : Int) : fst3 a b c = if a ≠ 0 then a else if b ≠ 0 then b else if c ≠ 0 then c else 0 := rfl
theorem fst4_eq (a b c d : Int) : fst4 a b c d = if a ≠ 0 then a else if b ≠ 0 then b else if c ≠ 0 then c else if d ≠ 0 then d else 0 := rfl
theorem okI2 (a b : Int) : okI [i a, i b] 2 2 := ⟨rfl, by decide, by decide, fun j hj => by
  match j, hj with
  | 0, _ => rfl
  | 1, _ => rfl⟩
theorem okI3 (a b c : Int) : okI [i a, i b, i c] 3 3 := ⟨rfl, by decide, by decide, fun j hj => by
  match j, hj with
  | 0, _ => rfl
  | 1, _ => rfl
  | 2, _ => rfl⟩
theorem okI4 (a b c d : Int) : okI [i a, i b, i c, i d] 4 4 := ⟨rfl, by decide, by decide, fun j hj => by
  match j, hj with
  | 0, _ => rfl
  | 1, _ => rfl
  | 2, _ => rfl
  | 3, _ => rfl⟩
/-- pairs of integers -/
def k2 : List CK := [.i .i64, .i .i64]
def pA (cs : List Value) (j : Nat) : Int := intO cs[0 + j * 2]?
def pB (cs : List Value) (j : Nat) : Int := intO cs[0 + j * 2 + 1]?
def okP (cs : List Value) (n c : Nat) : Prop := cs.all Ex.flat = true ∧ n ≤ c ∧ n < 4000000000000000000 ∧ ∀ j, j < n → areCells k2 cs (0 + j * 2) = true
theorem okP_a {cs : List Value} {n c j : Nat} (h : okP cs n c) (hj : j < n) : isCellB (.i .i64) cs[0 + j * 2]? = true ∧ isCellB (.i .i64) cs[0 + j * 2 + 1]? = true := by
  have := h.2.2.2 j hj
  unfold k2 areCells areCells areCells at this
  simp only [Bool.and_eq_true, Bool.and_true] at this
  exact this
noncomputable def sp3 : Nat → Nat → Split := at_ [(89, 11), (89, 18), (112, 11), (112, 18), (85, 15), (91, 9), (91, 16), (49, 7), (51, 12), (51, 23), (12, 11), (12, 29), (12, 41), (12, 44), (12, 60), (12, 7), (13, 5)] .bool no_
def sy3 : Nat → Nat → Bool := on_ [(89, 12), (89, 13), (112, 12), (112, 13), (91, 14), (91, 15), (51, 17), (51, 18), (12, 16), (12, 18), (12, 22), (12, 24), (12, 33), (12, 35), (12, 38), (12, 40), (12, 48), (12, 50), (12, 54), (12, 56)]
noncomputable def C3 : Cfg := ⟨T2, sp3, sy3, noL⟩
noncomputable def B89 : Code := bodyL Tryz.f89 2
noncomputable def B112 : Code := bodyL Tryz.f112 2
noncomputable def B91 : Code := bodyL Tryz.f91 2
noncomputable def B51 : Code := bodyL Tryz.f51 2
noncomputable def B12 : Code := bodyL Tryz.f12 4
section
variable (cs : List Value) (t s len cap : Nat) (ex : Bool) (lo hi : Int)
/-! Each over integers, with the closure of Ranges -/
def hp89 : List (CO × Bool) := [(.dead, false), (.cells cs t s ex, true), (.cells [i lo] 3 1 true, false), (.cells [i hi] 3 1 true, false)]
def S89 : Shape Int := ⟨21, fun n => ⟨[(1, fnc 90 [pt 2 0, pt 3 0]), (8, sl 1 0 len cap), (9, i len), (10, i n)], hp89 cs t s ex lo hi⟩, fun j n => match j with
  | 0 => (.exit 0, ⟨[], hp89 cs t s ex lo hi⟩)
  | _ => (.ret, ⟨[(4, i (rgE (eI cs n.toNat) lo hi))], hp89 cs t s ex lo hi⟩)⟩
def st89 (n : Int) : SS Int := .br (ltF n len) (askS (bnd_ n len cap) <| askS (cB cs (.i .i64) n) <| .br (!eqF (rgE (eI cs n.toNat) lo hi) 0) (.done 4 [0, 1, 2, 3] 1) (.next 4 [0, 1, 2, 3] (wrapF .i64 (n + 1)))) (.done 4 [0, 1, 2, 3] 0)
/-! checkEach -/
def S51 : Shape Int := ⟨25, fun n => ⟨[(0, sl 1 0 len cap), (1, i lo), (2, i hi), (7, i n)], hpI cs t s ex⟩, fun j n => match j with
  | 0 => (.exit 0, ⟨[], hpI cs t s ex⟩)
  | _ => (.ret, ⟨[(6, i (rgE (eI cs n.toNat) lo hi))], hpI cs t s ex⟩)⟩
def st51 (n : Int) : SS Int := .br (ltF n len) (askS (bnd_ n len cap) <| askS (cB cs (.i .i64) n) <| .br (!eqF (rgE (eI cs n.toNat) lo hi) 0) (.done 2 [0, 1] 1) (.next 2 [0, 1] (wrapF .i64 (n + 1)))) (.done 2 [0, 1] 0)
end
section
variable {cs : List Value} {t s len cap : Nat} {ex : Bool} {lo hi : Int}
theorem hp89_flat (h : cs.all Ex.flat = true) : ∀ o, (o, true) ∈ hp89 cs t s ex lo hi → FlatO o := by
  intro o ho
  simp [hp89] at ho
  subst ho
  exact fun x hx => List.all_eq_true.1 h x hx
theorem L89 (h : cs.all Ex.flat = true) : Loop1 Tryz.prog 2 89 B89 (S89 cs t s len cap ex lo hi) 4 (st89 cs len cap lo hi) (fun _ => True) :=
  .mk' (C := fun _ => C3) (n := 40) (fun _ _ => ts2) (fun _ _ => .none) (fun s ro _ => by kernel_rfl) (fun s ro _ => by kernel_rfl) (fun s => by kernel_rfl) (fun _ _ _ _ => trivial) (fun _ _ => hp89_flat h)
    (fun s j _ _ => by cases j <;> exact ⟨hp89_flat h, fun h => by cases h⟩)
theorem L51 (h : cs.all Ex.flat = true) : Loop1 Tryz.prog 2 51 B51 (S51 cs t s len cap ex lo hi) 2 (st51 cs len cap lo hi) (fun _ => True) :=
  .mk' (C := fun _ => C3) (n := 40) (fun _ _ => ts2) (fun _ _ => .none) (fun s ro _ => by kernel_rfl) (fun s ro _ => by kernel_rfl) (fun s => by kernel_rfl) (fun _ _ _ _ => trivial) (fun _ _ => hpI_flat h)
    (fun s j _ _ => by cases j <;> exact ⟨hpI_flat h, fun h => by cases h⟩)
/-- what both come to -/
def FstRun (e : Nat → Int) (len : Nat) (r : Nat × Int) : Prop := (firstF e len 0 = 0 ∧ r = (0, (len : Int))) ∨ (firstF e len 0 ≠ 0 ∧ ∃ j : Nat, j < len ∧ r = (1, (j : Int)) ∧ e j = firstF e len 0 ∧ ∀ k, k < j → e k = 0)
def rgL (cs : List Value) (lo hi : Int) (j : Nat) : Int := rgE (eI cs j) lo hi
theorem run89 (h : okI cs len cap) : ∃ r, runS (st89 cs len cap lo hi) (len + 1) 0 = some r ∧ FstRun (rgL cs lo hi) len r := by
  obtain ⟨_, hc, hl, hk⟩ := h
  refine run_first (st := fun j => ((j : Nat) : Int)) (e := rgL cs lo hi) (a := 0) (b := fun _ => 1) len (fun j hj he => ?_) (fun j hj he => ?_) ?_
  · unfold st89
    unfold rgL at he
    rw [br_t (by rw [ltF_eq]; simpa using hj), askS_sel (bnd_t hj hc), askS_sel (by exact hk j hj), br_f (by rw [eqF_d]; simp [he]), wsucc (by omega)]; rfl
  · unfold st89
    unfold rgL at he
    rw [br_t (by rw [ltF_eq]; simpa using hj), askS_sel (bnd_t hj hc), askS_sel (by exact hk j hj), br_t (by rw [eqF_d]; simp [he])]; rfl
  · unfold st89
    rw [br_f (by rw [ltF_eq]; simp)]; rfl
theorem run51 (h : okI cs len cap) : ∃ r, runS (st51 cs len cap lo hi) (len + 1) 0 = some r ∧ FstRun (rgL cs lo hi) len r := by
  obtain ⟨_, hc, hl, hk⟩ := h
  refine run_first (st := fun j => ((j : Nat) : Int)) (e := rgL cs lo hi) (a := 0) (b := fun _ => 1) len (fun j hj he => ?_) (fun j hj he => ?_) ?_
  · unfold st51
    unfold rgL at he
    rw [br_t (by rw [ltF_eq]; simpa using hj), askS_sel (bnd_t hj hc), askS_sel (by exact hk j hj), br_f (by rw [eqF_d]; simp [he]), wsucc (by omega)]; rfl
  · unfold st51
    unfold rgL at he
    rw [br_t (by rw [ltF_eq]; simpa using hj), askS_sel (bnd_t hj hc), askS_sel (by exact hk j hj), br_t (by rw [eqF_d]; simp [he])]; rfl
  · unfold st51
    rw [br_f (by rw [ltF_eq]; simp)]; rfl
end
end Go.Proofs.YtdnogbdfiahcaaaGreat.Ways
namespace Go.Proofs.YtdnogbdfiahcaaaGreat.Ways
open Go Go.Ex Go.RowKit
section
variable (cs : List Value) (t s len cap : Nat) (ex : Bool) (sp : Int)
def cP (n : Int) : Bool := areCells k2 cs (0 + n.toNat * 2)
def cA (n : Int) : Bool := isCellB (.i .i64) cs[0 + n.toNat * 2]?
def cA1 (n : Int) : Bool := isCellB (.i .i64) cs[0 + n.toNat * 2 + 1]?
/-! checkBands' Each -/
def hp112 (b0 b1 : Int) : List (CO × Bool) := [(.dead, false), (.cells cs t s ex, true), (.dead, false), (.cells [fn 85] 149 1 true, false), (.cells [i b0, i b1] 38 1 true, false)]
def hpX : List (CO × Bool) := [(.dead, false), (.cells cs t s ex, true), (.dead, false), (.dead, false), (.dead, false)]
def od1 (b1 x0 : Int) : Int := cond (leF (wrapF .i64 (b1 + 2)) x0) 0 11
def err3 (n : Int) (o : Int) : Int := fst3 (rgE (pA cs n.toNat) 1 100) (rgE (pB cs n.toNat) 1 100) o
def S112 : Shape (Int × Int × Int) := ⟨21, fun q => ⟨[(1, fnc 113 [pt 3 0, pt 4 0]), (8, sl 1 0 len cap), (9, i len), (10, i q.1)], hp112 cs t s ex q.2.1 q.2.2⟩, fun j q => match j with
  | 0 => (.exit 0, ⟨[], hpX cs t s ex⟩)
  | 1 => (.ret, ⟨[(4, i (err3 cs q.1 (od1 q.2.2 (pA cs q.1.toNat))))], hpX cs t s ex⟩)
  | _ => (.ret, ⟨[(4, i (err3 cs q.1 11))], hpX cs t s ex⟩)⟩
noncomputable def st112 (q : Int × Int × Int) : SS (Int × Int × Int) :=
  .br (ltF q.1 len) (askS (bnd_ q.1 len cap) <| askS (cP cs q.1) <| .br (leF (pA cs q.1.toNat) (pB cs q.1.toNat))
    (askS (tru (okI [i (rgE (pA cs q.1.toNat) 1 100), i (rgE (pB cs q.1.toNat) 1 100), i (od1 q.2.2 (pA cs q.1.toNat))] 3 3)) <| .br (!eqF (err3 cs q.1 (od1 q.2.2 (pA cs q.1.toNat))) 0) (.done 10 [0, 1, 2, 3, 4] 1) (.next 10 [0, 1, 2, 3, 4] (wrapF .i64 (q.1 + 1), pA cs q.1.toNat, pB cs q.1.toNat)))
    (askS (tru (okI [i (rgE (pA cs q.1.toNat) 1 100), i (rgE (pB cs q.1.toNat) 1 100), i 11] 3 3)) <| .br (!eqF (err3 cs q.1 11) 0) (.done 10 [0, 1, 2, 3, 4] 2) (.next 10 [0, 1, 2, 3, 4] (wrapF .i64 (q.1 + 1), pA cs q.1.toNat, pB cs q.1.toNat))))
    (.done 5 [0, 1, 2, 3, 4] 0)
/-! IndexFunc with the closure of Crossing -/
variable (t2 s2 : Nat) (e2 : Bool)
def hp91 : List (CO × Bool) := [(.dead, false), (.cells cs t s ex, true), (.cells [i sp] t2 s2 e2, false)]
def S91 : Shape Int := ⟨19, fun n => ⟨[(0, sl 1 0 len cap), (1, fnc 49 [pt 2 0]), (7, i len), (8, i n)], hp91 cs t s ex sp t2 s2 e2⟩, fun j n => match j with
  | 0 => (.exit 0, ⟨[], hp91 cs t s ex sp t2 s2 e2⟩)
  | _ => (.ret, ⟨[(4, i n)], hp91 cs t s ex sp t2 s2 e2⟩)⟩
def st91 (n : Int) : SS Int := .br (ltF n len) (askS (bnd_ n len cap) <| askS (cP cs n) <| .br (leF (pA cs n.toNat) sp) (.br (leF sp (pB cs n.toNat)) (.done 4 [0, 1, 2] 1) (.next 4 [0, 1, 2] (wrapF .i64 (n + 1)))) (.br false (.done 4 [0, 1, 2] 1) (.next 4 [0, 1, 2] (wrapF .i64 (n + 1))))) (.done 3 [0, 1, 2] 0)
/-! the reference's CheckBands -/
def err2 (n : Int) : Int := fst2 (rgE (pA cs n.toNat) 1 100) (rgE (pB cs n.toNat) 1 100)
def S12 : Shape Int := ⟨61, fun n => ⟨[(0, sl 1 0 len cap), (3, i n)], hpI cs t s ex⟩, fun j n => match j with
  | 0 => (.exit 0, ⟨[], hpI cs t s ex⟩)
  | 1 => (.ret, ⟨[(2, i (err2 cs n))], hpI cs t s ex⟩)
  | _ => (.ret, ⟨[(2, i 11)], hpI cs t s ex⟩)⟩
noncomputable def st12 (n : Int) : SS Int :=
  .br (ltF n len) (askS (bnd_ n len cap) <| askS (cA cs n) <| askS (bnd_ n len cap) <| askS (cA1 cs n) <| askS (tru (okI [i (rgE (pA cs n.toNat) 1 100), i (rgE (pB cs n.toNat) 1 100)] 2 2)) <|
    .br (!eqF (err2 cs n) 0) (.done 3 [0, 1] 1) <| askS (bnd_ n len cap) <| askS (cA1 cs n) <| askS (bnd_ n len cap) <| askS (cA cs n) <|
      .br (ltF (pB cs n.toNat) (pA cs n.toNat)) (.br true (.done 3 [0, 1] 2) (.next 3 [0, 1] (wrapF .i64 (n + 1)))) <|
      .br (ltF 0 n) (askS (bnd_ n len cap) <| askS (cA cs n) <| askS (bnd_ (wrapF .i64 (n - 1)) len cap) <| askS (cA1 cs (wrapF .i64 (n - 1))) <|
        .br (ltF (pA cs n.toNat) (wrapF .i64 (pB cs (wrapF .i64 (n - 1)).toNat + 2))) (.done 3 [0, 1] 2) (.next 3 [0, 1] (wrapF .i64 (n + 1))))
        (.br false (.done 3 [0, 1] 2) (.next 3 [0, 1] (wrapF .i64 (n + 1)))))
    (.done 2 [0, 1] 0)
end
section
variable {cs : List Value} {t s len cap : Nat} {ex : Bool} {sp : Int} {t2 s2 : Nat} {e2 : Bool}
theorem hp112_flat {b0 b1 : Int} (h : cs.all Ex.flat = true) : ∀ o, (o, true) ∈ hp112 cs t s ex b0 b1 → FlatO o := by
  intro o ho
  simp [hp112] at ho
  subst ho
  exact fun x hx => List.all_eq_true.1 h x hx
theorem hpX_flat (h : cs.all Ex.flat = true) : ∀ o, (o, true) ∈ hpX cs t s ex → FlatO o := by
  intro o ho
  simp [hpX] at ho
  subst ho
  exact fun x hx => List.all_eq_true.1 h x hx
theorem hp91_flat (h : cs.all Ex.flat = true) : ∀ o, (o, true) ∈ hp91 cs t s ex sp t2 s2 e2 → FlatO o := by
  intro o ho
  simp [hp91] at ho
  subst ho
  exact fun x hx => List.all_eq_true.1 h x hx
theorem L112 (h : cs.all Ex.flat = true) : Loop1 Tryz.prog 2 112 B112 (S112 cs t s len cap ex) 5 (st112 cs len cap) (fun _ => True) :=
  .mk' (C := fun _ => C3) (n := 40) (fun _ _ => ts2) (fun _ _ => .none) (fun s ro _ => by kernel_rfl) (fun s ro _ => by kernel_rfl) (fun s => by kernel_rfl) (fun _ _ _ _ => trivial) (fun _ _ => hp112_flat h)
    (fun s j _ _ => by
      match j with
      | 0 => exact ⟨hpX_flat h, fun h => by cases h⟩
      | 1 => exact ⟨hpX_flat h, fun h => by cases h⟩
      | j + 2 => exact ⟨hpX_flat h, fun h => by cases h⟩)
theorem L91 (h : cs.all Ex.flat = true) : Loop1 Tryz.prog 3 91 B91 (S91 cs t s len cap ex sp t2 s2 e2) 3 (st91 cs len cap sp) (fun _ => True) :=
  .mk' (C := fun _ => C3) (n := 40) (fun _ _ => ts2) (fun _ _ => .none) (fun s ro _ => by kernel_rfl) (fun s ro _ => by kernel_rfl) (fun s => by kernel_rfl) (fun _ _ _ _ => trivial) (fun _ _ => hp91_flat h)
    (fun s j _ _ => by cases j <;> exact ⟨hp91_flat h, fun h => by cases h⟩)
theorem L12 (h : cs.all Ex.flat = true) : Loop1 Tryz.prog 2 12 B12 (S12 cs t s len cap ex) 2 (st12 cs len cap) (fun _ => True) :=
  .mk' (C := fun _ => C3) (n := 40) (fun _ _ => ts2) (fun _ _ => .none) (fun s ro _ => by kernel_rfl) (fun s ro _ => by kernel_rfl) (fun s => by kernel_rfl) (fun _ _ _ _ => trivial) (fun _ _ => hpI_flat h)
    (fun s j _ _ => by
      match j with
      | 0 => exact ⟨hpI_flat h, fun h => by cases h⟩
      | 1 => exact ⟨hpI_flat h, fun h => by cases h⟩
      | j + 2 => exact ⟨hpI_flat h, fun h => by cases h⟩)
end
end Go.Proofs.YtdnogbdfiahcaaaGreat.Ways
namespace Go.Proofs.YtdnogbdfiahcaaaGreat.Ways
open Go Go.Ex Go.RowKit
/-! ### what the loops come to -/
def prA (cs : List Value) : Nat → Int
  | 0 => -1
  | j + 1 => pA cs j
def prB (cs : List Value) : Nat → Int
  | 0 => -1
  | j + 1 => pB cs j
def oE (cs : List Value) (j : Nat) : Int := if pA cs j ≤ pB cs j ∧ wrapF .i64 (prB cs j + 2) ≤ pA cs j then 0 else 11
def bE (cs : List Value) (j : Nat) : Int := fst3 (rgE (pA cs j) 1 100) (rgE (pB cs j) 1 100) (oE cs j)
def rE (cs : List Value) (j : Nat) : Int := if fst2 (rgE (pA cs j) 1 100) (rgE (pB cs j) 1 100) ≠ 0 then fst2 (rgE (pA cs j) 1 100) (rgE (pB cs j) 1 100) else if pB cs j < pA cs j ∨ (0 < j ∧ pA cs j < wrapF .i64 (prB cs j + 2)) then 11 else 0
def inE (cs : List Value) (sp : Int) (j : Nat) : Int := if pA cs j ≤ sp ∧ sp ≤ pB cs j then 1 else 0
def sq (cs : List Value) (j : Nat) : Int × Int × Int := ((j : Nat), prA cs j, prB cs j)
theorem cP_t {cs : List Value} {n c j : Nat} (h : okP cs n c) (hj : j < n) : cP cs (j : Int) = true := h.2.2.2 j hj
theorem cA_t {cs : List Value} {n c j : Nat} (h : okP cs n c) (hj : j < n) : cA cs (j : Int) = true := (okP_a h hj).1
theorem cA1_t {cs : List Value} {n c j : Nat} (h : okP cs n c) (hj : j < n) : cA1 cs (j : Int) = true := (okP_a h hj).2
theorem run112 {cs : List Value} {len cap : Nat} (h : okP cs len cap) : ∃ r, runS (st112 cs len cap) (len + 1) (0, -1, -1) = some r ∧ ((firstF (bE cs) len 0 = 0 ∧ r = (0, sq cs len)) ∨
    (firstF (bE cs) len 0 ≠ 0 ∧ ∃ j : Nat, j < len ∧ r = ((if pA cs j ≤ pB cs j then 1 else 2), sq cs j) ∧ bE cs j = firstF (bE cs) len 0 ∧ ∀ k, k < j → bE cs k = 0)) := by
  have hc := h.2.1
  have hl := h.2.2.1
  have e1 : ∀ j, pA cs j ≤ pB cs j → err3 cs (j : Int) (od1 (prB cs j) (pA cs j)) = bE cs j := by
    intro j hle
    unfold err3 bE oE od1
    rw [leF_eq]
    simp only [Int.toNat_natCast]
    by_cases hw : wrapF .i64 (prB cs j + 2) ≤ pA cs j
    · rw [decide_eq_true hw, if_pos ⟨hle, hw⟩]; rfl
    · rw [decide_eq_false hw, if_neg (fun x => hw x.2)]; rfl
  have e2 : ∀ j, ¬ pA cs j ≤ pB cs j → err3 cs (j : Int) 11 = bE cs j := by
    intro j hle
    unfold err3 bE oE
    rw [if_neg (fun x => hle x.1)]
    simp only [Int.toNat_natCast]
  have hnext : ∀ j, j < len → (wrapF .i64 ((sq cs j).1 + 1), pA cs (sq cs j).1.toNat, pB cs (sq cs j).1.toNat) = sq cs (j + 1) := by
    intro j hj
    show (wrapF .i64 ((j : Int) + 1), pA cs (j : Int).toNat, pB cs (j : Int).toNat) = _
    rw [wsucc (by omega)]; rfl
  refine run_first (st := sq cs) (e := bE cs) (a := 0) (b := fun j => if pA cs j ≤ pB cs j then 1 else 2) len (fun j hj he => ?_) (fun j hj he => ?_) ?_
  · unfold st112
    rw [hnext j hj, br_t (by rw [ltF_eq]; simpa [sq] using hj), askS_sel (show bnd_ (sq cs j).1 len cap = true from bnd_t hj hc), askS_sel (show cP cs (sq cs j).1 = true from cP_t h hj)]
    by_cases hle : pA cs j ≤ pB cs j
    · rw [br_t (show leF (pA cs (sq cs j).1.toNat) (pB cs (sq cs j).1.toNat) = true by rw [leF_eq]; exact decide_eq_true hle), askS_sel (tru_iff.2 (okI3 _ _ _)), br_f]; · rfl
      show (!eqF (err3 cs (j : Int) (od1 (prB cs j) (pA cs j))) 0) = false
      rw [e1 j hle, he, eqF_d]; rfl
    · rw [br_f (show leF (pA cs (sq cs j).1.toNat) (pB cs (sq cs j).1.toNat) = false by rw [leF_eq]; exact decide_eq_false hle), askS_sel (tru_iff.2 (okI3 _ _ _)), br_f]; · rfl
      show (!eqF (err3 cs (j : Int) 11) 0) = false
      rw [e2 j hle, he, eqF_d]; rfl
  · unfold st112
    rw [br_t (by rw [ltF_eq]; simpa [sq] using hj), askS_sel (show bnd_ (sq cs j).1 len cap = true from bnd_t hj hc), askS_sel (show cP cs (sq cs j).1 = true from cP_t h hj)]
    by_cases hle : pA cs j ≤ pB cs j
    · rw [br_t (show leF (pA cs (sq cs j).1.toNat) (pB cs (sq cs j).1.toNat) = true by rw [leF_eq]; exact decide_eq_true hle), askS_sel (tru_iff.2 (okI3 _ _ _)), br_t]; · rw [if_pos hle]; rfl
      show (!eqF (err3 cs (j : Int) (od1 (prB cs j) (pA cs j))) 0) = true
      rw [e1 j hle, eqF_d]; simp [he]
    · rw [br_f (show leF (pA cs (sq cs j).1.toNat) (pB cs (sq cs j).1.toNat) = false by rw [leF_eq]; exact decide_eq_false hle), askS_sel (tru_iff.2 (okI3 _ _ _)), br_t]; · rw [if_neg hle]; rfl
      show (!eqF (err3 cs (j : Int) 11) 0) = true
      rw [e2 j hle, eqF_d]; simp [he]
  · unfold st112
    rw [br_f (by rw [ltF_eq]; simp [sq])]; rfl
theorem run91 {cs : List Value} {len cap : Nat} {sp : Int} (h : okP cs len cap) : ∃ r, runS (st91 cs len cap sp) (len + 1) 0 = some r ∧ FstRun (inE cs sp) len r := by
  have hc := h.2.1
  have hl := h.2.2.1
  refine run_first (st := fun j => ((j : Nat) : Int)) (e := inE cs sp) (a := 0) (b := fun _ => 1) len (fun j hj he => ?_) (fun j hj he => ?_) ?_
  · unfold st91
    rw [br_t (by rw [ltF_eq]; simpa using hj), askS_sel (bnd_t hj hc), askS_sel (cP_t h hj), wsucc (by omega)]
    unfold inE at he
    by_cases h1 : pA cs j ≤ sp
    · have h2 : ¬ sp ≤ pB cs j := fun h2 => by rw [if_pos ⟨h1, h2⟩] at he; cases he
      rw [br_t (by rw [leF_eq]; exact decide_eq_true h1), br_f (by rw [leF_eq]; exact decide_eq_false h2)]; rfl
    · rw [br_f (by rw [leF_eq]; exact decide_eq_false h1), br_f rfl]; rfl
  · unfold st91
    rw [br_t (by rw [ltF_eq]; simpa using hj), askS_sel (bnd_t hj hc), askS_sel (cP_t h hj)]
    unfold inE at he
    have h12 : pA cs j ≤ sp ∧ sp ≤ pB cs j := by
      by_cases hh : pA cs j ≤ sp ∧ sp ≤ pB cs j
      · exact hh
      · rw [if_neg hh] at he; exact absurd rfl he
    rw [br_t (by rw [leF_eq]; exact decide_eq_true h12.1), br_t (by rw [leF_eq]; exact decide_eq_true h12.2)]; rfl
  · unfold st91
    rw [br_f (by rw [ltF_eq]; simp)]; rfl
theorem run12 {cs : List Value} {len cap : Nat} (h : okP cs len cap) : ∃ r, runS (st12 cs len cap) (len + 1) 0 = some r ∧ ((firstF (rE cs) len 0 = 0 ∧ r = (0, (len : Int))) ∨
    (firstF (rE cs) len 0 ≠ 0 ∧ ∃ j : Nat, j < len ∧ r = ((if fst2 (rgE (pA cs j) 1 100) (rgE (pB cs j) 1 100) ≠ 0 then 1 else 2), (j : Int)) ∧ rE cs j = firstF (rE cs) len 0 ∧ ∀ k, k < j → rE cs k = 0)) := by
  have hc := h.2.1
  have hl := h.2.2.1
  have hprev : ∀ j, 0 < j → j < len → wrapF .i64 ((j : Int) - 1) = ((j - 1 : Nat) : Int) ∧ pB cs (j - 1) = prB cs j := by
    intro j h0 hj
    refine ⟨by rw [wrapF_in (by omega) (by omega)]; omega, ?_⟩
    match j, h0 with
    | j + 1, _ => rfl
  refine run_first (st := fun j => ((j : Nat) : Int)) (e := rE cs) (a := 0) (b := fun j => if fst2 (rgE (pA cs j) 1 100) (rgE (pB cs j) 1 100) ≠ 0 then 1 else 2) len (fun j hj he => ?_) (fun j hj he => ?_) ?_
  · have hf : fst2 (rgE (pA cs j) 1 100) (rgE (pB cs j) 1 100) = 0 := by
      unfold rE at he
      by_cases hf : fst2 (rgE (pA cs j) 1 100) (rgE (pB cs j) 1 100) = 0
      · exact hf
      · rw [if_pos hf] at he; exact absurd he hf
    have hn : ¬ (pB cs j < pA cs j ∨ (0 < j ∧ pA cs j < wrapF .i64 (prB cs j + 2))) := by
      unfold rE at he
      rw [if_neg (by simpa using hf)] at he
      intro hh
      rw [if_pos hh] at he
      cases he
    unfold st12
    rw [br_t (by rw [ltF_eq]; simpa using hj), askS_sel (bnd_t hj hc), askS_sel (cA_t h hj), askS_sel (bnd_t hj hc), askS_sel (cA1_t h hj), askS_sel (tru_iff.2 (okI2 _ _)),
      br_f (by show (!eqF (fst2 (rgE (pA cs j) 1 100) (rgE (pB cs j) 1 100)) 0) = false; rw [hf, eqF_d]; rfl), askS_sel (bnd_t hj hc), askS_sel (cA1_t h hj), askS_sel (bnd_t hj hc), askS_sel (cA_t h hj),
      br_f (by rw [ltF_eq]; exact decide_eq_false (fun x => hn (.inl x)))]
    by_cases h0 : 0 < j
    · obtain ⟨g1, g2⟩ := hprev j h0 hj
      rw [br_t (by rw [ltF_eq]; simpa using h0), askS_sel (bnd_t hj hc), askS_sel (cA_t h hj), g1, askS_sel (bnd_t (by omega) hc), askS_sel (cA1_t h (by omega)), br_f, wsucc (by omega)]; · rfl
      rw [ltF_eq]
      refine decide_eq_false fun x => hn (.inr ⟨h0, ?_⟩)
      simp only [Int.toNat_natCast] at x
      rw [g2] at x
      exact x
    · rw [br_f (by rw [ltF_eq]; simpa using h0), br_f rfl, wsucc (by omega)]; rfl
  · unfold st12
    rw [br_t (by rw [ltF_eq]; simpa using hj), askS_sel (bnd_t hj hc), askS_sel (cA_t h hj), askS_sel (bnd_t hj hc), askS_sel (cA1_t h hj), askS_sel (tru_iff.2 (okI2 _ _))]
    by_cases hf : fst2 (rgE (pA cs j) 1 100) (rgE (pB cs j) 1 100) = 0
    · rw [if_neg (by simpa using hf), br_f (by show (!eqF (fst2 (rgE (pA cs j) 1 100) (rgE (pB cs j) 1 100)) 0) = false; rw [hf, eqF_d]; rfl), askS_sel (bnd_t hj hc), askS_sel (cA1_t h hj), askS_sel (bnd_t hj hc), askS_sel (cA_t h hj)]
      have hn : pB cs j < pA cs j ∨ (0 < j ∧ pA cs j < wrapF .i64 (prB cs j + 2)) := by
        unfold rE at he
        rw [if_neg (by simpa using hf)] at he
        by_cases hh : pB cs j < pA cs j ∨ (0 < j ∧ pA cs j < wrapF .i64 (prB cs j + 2))
        · exact hh
        · rw [if_neg hh] at he; exact absurd rfl he
      by_cases hlt : pB cs j < pA cs j
      · rw [br_t (by rw [ltF_eq]; exact decide_eq_true hlt), br_t rfl]; rfl
      · rw [br_f (by rw [ltF_eq]; exact decide_eq_false hlt)]
        obtain ⟨h0, hq⟩ := hn.resolve_left hlt
        obtain ⟨g1, g2⟩ := hprev j h0 hj
        rw [br_t (by rw [ltF_eq]; simpa using h0), askS_sel (bnd_t hj hc), askS_sel (cA_t h hj), g1, askS_sel (bnd_t (by omega) hc), askS_sel (cA1_t h (by omega)), br_t]; · rfl
        rw [ltF_eq]
        refine decide_eq_true ?_
        simp only [Int.toNat_natCast]
        rw [g2]
        exact hq
    · rw [if_pos hf, br_t (by show (!eqF (fst2 (rgE (pA cs j) 1 100) (rgE (pB cs j) 1 100)) 0) = true; rw [eqF_d]; simp [hf])]; rfl
  · unfold st12
    rw [br_f (by rw [ltF_eq]; simp)]; rfl
/-- both checks of bands find the same first error -/
theorem bE_rE (cs : List Value) (n : Nat) : firstF (bE cs) n 0 = firstF (rE cs) n 0 := by
  refine firstF_congr n 0 fun j _ _ => ?_
  unfold bE rE oE rgE
  rw [fst3_eq, fst2_eq]
  by_cases h1 : 1 ≤ pA cs j ∧ pA cs j ≤ 100
  · rw [if_pos h1]
    by_cases h2 : 1 ≤ pB cs j ∧ pB cs j ≤ 100
    · have key : (pA cs j ≤ pB cs j ∧ wrapF .i64 (prB cs j + 2) ≤ pA cs j) ↔ ¬ (pB cs j < pA cs j ∨ (0 < j ∧ pA cs j < wrapF .i64 (prB cs j + 2))) := by
        match j with
        | 0 =>
          have hw : wrapF .i64 (prB cs 0 + 2) = 1 := by
            show wrapF .i64 (-1 + 2) = 1
            decide
          rw [hw]
          constructor
          · intro _; omega
          · intro _; omega
        | j + 1 =>
          constructor
          · intro _; omega
          · intro h; omega
      rw [if_pos h2]
      by_cases hA : pA cs j ≤ pB cs j ∧ wrapF .i64 (prB cs j + 2) ≤ pA cs j
      · rw [if_pos hA, if_neg (key.1 hA)]; rfl
      · have hB : pB cs j < pA cs j ∨ (0 < j ∧ pA cs j < wrapF .i64 (prB cs j + 2)) := by
          by_cases hB : pB cs j < pA cs j ∨ (0 < j ∧ pA cs j < wrapF .i64 (prB cs j + 2))
          · exact hB
          · exact absurd (key.2 hB) hA
        rw [if_neg hA, if_pos hB]; rfl
    · rw [if_neg h2]; rfl
  · rw [if_neg h1]; rfl
end Go.Proofs.YtdnogbdfiahcaaaGreat.Ways
namespace Go.Proofs.YtdnogbdfiahcaaaGreat.Ways
open Go Go.Ex Go.RowKit
theorem p14 (x : Int) : Pure Tryz.prog Hd 14 [i x] (i (rgE x 1 1024)) :=
  pure_run (C := ⟨T1, no_, off_, noL⟩) (G := 1) 30 (.leaf (i (rgE x 1 1024))) ts1 .none (by decide) hd_len rfl (by kernel_rfl) (by kernel_rfl) rfl
def s14 : List Value → Option Value
  | [.int .i64 x] => some (i (rgE x 1 1024))
  | _ => none
section
variable (cs : List Value) (t s len cap : Nat) (ex : Bool) (lo hi sp : Int)
noncomputable def cfgL (L : LTab) : Cfg := ⟨T2, sp3, sy3, L⟩
noncomputable def K46 (r : Nat × Int) : Cfg := cfgL (loopE noL 89 2 21 4 B89 ((S89 cs t s len cap ex lo hi).st 0).live ((S89 cs t s len cap ex lo hi).st 0).hp (finO (S89 cs t s len cap ex lo hi) r [0, 1]))
noncomputable def o46 (r : Nat × Int) : Out QRes := execO Tryz.prog 2 (K46 cs t s len cap ex lo hi r) 60 (.call 46 ⟨[sl 1 0 len cap, i lo, i hi]⟩ (heapL [.dead, .cells cs t s ex]))
def vt46 (r : Nat × Int) : VT := .br (Nat.beq r.1 0) (.leaf (i 0)) (.br (Nat.beq r.1 1) (.leaf (i (rgE (eI cs r.2.toNat) lo hi))) .fail)
theorem v46 (r : Nat × Int) : (o46 cs t s len cap ex lo hi r).vals = vt46 cs lo hi r := by kernel_rfl
theorem x46 (r : Nat × Int) : o46 cs t s len cap ex lo hi r = (o46 cs t s len cap ex lo hi r).fix := by kernel_rfl
noncomputable def K13 (r : Nat × Int) : Cfg := cfgL (loopE noL 51 2 25 2 B51 ((S51 cs t s len cap ex 0 100).st 0).live ((S51 cs t s len cap ex 0 100).st 0).hp (finO (S51 cs t s len cap ex 0 100) r [0, 1]))
noncomputable def o13 (r : Nat × Int) : Out QRes := execO Tryz.prog 2 (K13 cs t s len cap ex r) 60 (.call 13 ⟨[sl 1 0 len cap]⟩ (heapL [.dead, .cells cs t s ex]))
theorem v13 (r : Nat × Int) : (o13 cs t s len cap ex r).vals = .br (ltF 1024 len) (.leaf (i 5)) (vt46 cs 0 100 r) := by kernel_rfl
theorem x13 (r : Nat × Int) : o13 cs t s len cap ex r = (o13 cs t s len cap ex r).fix := by kernel_rfl
noncomputable def K44 (r : Nat × Int × Int × Int) : Cfg := cfgL (loopE noL 112 2 21 5 B112 ((S112 cs t s len cap ex).st (0, -1, -1)).live ((S112 cs t s len cap ex).st (0, -1, -1)).hp (finO (S112 cs t s len cap ex) r [0, 1, 2]))
noncomputable def o44 (r : Nat × Int × Int × Int) : Out QRes := execO Tryz.prog 2 (K44 cs t s len cap ex r) 60 (.call 44 ⟨[sl 1 0 len cap]⟩ (heapL [.dead, .cells cs t s ex]))
noncomputable def vtF (e : Int) : VT := .br (tru (okI [i (mnE len 100), i e] 2 2)) (.leaf (i (fst2 (mnE len 100) e))) .fail
noncomputable def vt44 (r : Nat × Int × Int × Int) : VT := .br (Nat.beq r.1 0) (vtF len 0) (.br (Nat.beq r.1 1) (vtF len (err3 cs r.2.1 (od1 r.2.2.2 (pA cs r.2.1.toNat)))) (.br (Nat.beq r.1 2) (vtF len (err3 cs r.2.1 11)) .fail))
theorem v44 (r : Nat × Int × Int × Int) : (o44 cs t s len cap ex r).vals = vt44 cs len r := by kernel_rfl
theorem x44 (r : Nat × Int × Int × Int) : o44 cs t s len cap ex r = (o44 cs t s len cap ex r).fix := by kernel_rfl
variable (t2 s2 : Nat) (e2 : Bool)
noncomputable def K48 (r : Nat × Int) : Cfg := cfgL (loopE noL 91 2 19 3 B91 ((S91 cs t s len cap ex sp t2 s2 e2).st 0).live ((S91 cs t s len cap ex sp t2 s2 e2).st 0).hp (finO (S91 cs t s len cap ex sp t2 s2 e2) r [0, 1]))
noncomputable def o48 (r : Nat × Int) : Out QRes := execO Tryz.prog 3 (K48 cs t s len cap ex sp t2 s2 e2 r) 60 (.call 48 ⟨[sl 1 0 len cap, fnc 49 [pt 2 0]]⟩ (heapL [.dead, .cells cs t s ex, .cells [i sp] t2 s2 e2]))
theorem v48 (r : Nat × Int) : (o48 cs t s len cap ex sp t2 s2 e2 r).vals = .br (Nat.beq r.1 0) (.leaf (b_ false)) (.br (Nat.beq r.1 1) (.leaf (b_ (leF 0 r.2))) .fail) := by kernel_rfl
theorem x48 (r : Nat × Int) : o48 cs t s len cap ex sp t2 s2 e2 r = (o48 cs t s len cap ex sp t2 s2 e2 r).fix := by kernel_rfl
noncomputable def K12 (r : Nat × Int) : Cfg := cfgL (loopE noL 12 4 61 2 B12 ((S12 cs t s len cap ex).st 0).live ((S12 cs t s len cap ex).st 0).hp (finO (S12 cs t s len cap ex) r [0, 1, 2]))
noncomputable def o12 (r : Nat × Int) : Out QRes := execO Tryz.prog 2 (K12 cs t s len cap ex r) 60 (.call 12 ⟨[sl 1 0 len cap]⟩ (heapL [.dead, .cells cs t s ex]))
theorem v12 (r : Nat × Int) : (o12 cs t s len cap ex r).vals = .br (ltF 100 len) (.leaf (i 5)) (.br (Nat.beq r.1 0) (.leaf (i 0)) (.br (Nat.beq r.1 1) (.leaf (i (err2 cs r.2))) (.br (Nat.beq r.1 2) (.leaf (i 11)) .fail))) := by kernel_rfl
theorem x12 (r : Nat × Int) : o12 cs t s len cap ex r = (o12 cs t s len cap ex r).fix := by kernel_rfl
end
/-! ### the entries -/
theorem vt46_sel {cs : List Value} {len : Nat} {lo hi : Int} {r : Nat × Int} (h : FstRun (rgL cs lo hi) len r) : (vt46 cs lo hi r).sel = some (i (firstF (rgL cs lo hi) len 0)) := by
  rcases h with ⟨h1, rfl⟩ | ⟨_, j, _, rfl, h2, _⟩
  · rw [h1]; rfl
  · rw [← h2]; rfl
def sp46 : ESpec := fun al css => match al, css with
  | [.slice (some ⟨1, 0, none⟩) n c, .int .i64 lo, .int .i64 hi], [cs] => some (okI cs n c, i (firstF (rgL cs lo hi) n 0))
  | _, _ => none
def cSp (cs : List Value) (n : Nat) : Int := if 1024 < n then 5 else firstF (rgL cs 0 100) n 0
def sp13 : ESpec := fun al css => match al, css with
  | [.slice (some ⟨1, 0, none⟩) n c], [cs] => some (okI cs n c, i (cSp cs n))
  | _, _ => none
def cBd (cs : List Value) (n : Nat) : Int := if 100 < n then 5 else firstF (rE cs) n 0
def sp12 : ESpec := fun al css => match al, css with
  | [.slice (some ⟨1, 0, none⟩) n c], [cs] => some (okP cs n c, i (cBd cs n))
  | _, _ => none
def anyB (cs : List Value) (n : Nat) (sp : Int) : Bool := decide (firstF (inE cs sp) n 0 ≠ 0)
def sp48 : ESpec := fun al css => match al, css with
  | [.slice (some ⟨1, 0, none⟩) n c, .func (.func 49) ⟨[]⟩ ⟨[.pointer (some ⟨2, 0, none⟩)]⟩], [cs, [.int .i64 sp]] => some (okP cs n c, b_ (anyB cs n sp))
  | _, _ => none
theorem c46 : ∀ al css os p v, sp46 al css = some (p, v) → p → Blks css os → (∀ cs ∈ css, cs.all Ex.flat = true) ∧ clean 6 v = true ∧ ∃ H', Sound Tryz.prog (gl + css.length) (.call 46 ⟨al⟩ (heapL (deads ++ os))) (.val v H') := by
  intro al css os p v hs hp hb
  unfold sp46 at hs
  split at hs
  case h_2 => cases hs
  rename_i n c lo hi cs
  cases hs
  obtain ⟨t, s, ex, rfl⟩ := blks1 hb
  refine ⟨by simpa using hp.1, rfl, ?_⟩
  obtain ⟨r, hr, hv⟩ := run89 (lo := lo) (hi := hi) hp
  have hL := (L89 (t := t) (s := s) (len := n) (cap := c) (ex := ex) (lo := lo) (hi := hi) hp.1).table (id := 2) .none (by decide) trivial hr (by kernel_rfl) [0, 1]
  obtain ⟨H', h'⟩ := Out.vals_sel (x46 cs t s n c ex lo hi r) (v := i (firstF (rgL cs lo hi) n 0)) (by rw [v46]; exact vt46_sel hv)
  exact ⟨H', execO_sound (C := K46 cs t s n c ex lo hi r) ts2 hL 60 _ _ h'⟩
theorem c13 : ∀ al css os p v, sp13 al css = some (p, v) → p → Blks css os → (∀ cs ∈ css, cs.all Ex.flat = true) ∧ clean 6 v = true ∧ ∃ H', Sound Tryz.prog (gl + css.length) (.call 13 ⟨al⟩ (heapL (deads ++ os))) (.val v H') := by
  intro al css os p v hs hp hb
  unfold sp13 at hs
  split at hs
  case h_2 => cases hs
  rename_i n c cs
  cases hs
  obtain ⟨t, s, ex, rfl⟩ := blks1 hb
  refine ⟨by simpa using hp.1, rfl, ?_⟩
  obtain ⟨r, hr, hv⟩ := run51 (lo := 0) (hi := 100) hp
  have hL := (L51 (t := t) (s := s) (len := n) (cap := c) (ex := ex) (lo := 0) (hi := 100) hp.1).table (id := 2) .none (by decide) trivial hr (by kernel_rfl) [0, 1]
  obtain ⟨H', h'⟩ := Out.vals_sel (x13 cs t s n c ex r) (v := i (cSp cs n)) (by
    rw [v13]
    unfold cSp
    by_cases h : 1024 < n
    · simp only [VT.sel, ltF_eq]
      rw [decide_eq_true (by omega), if_pos h]; rfl
    · simp only [VT.sel, ltF_eq]
      rw [decide_eq_false (by omega), if_neg h]
      exact vt46_sel hv)
  exact ⟨H', execO_sound (C := K13 cs t s n c ex r) ts2 hL 60 _ _ h'⟩
theorem c48 : ∀ al css os p v, sp48 al css = some (p, v) → p → Blks css os → (∀ cs ∈ css, cs.all Ex.flat = true) ∧ clean 6 v = true ∧ ∃ H', Sound Tryz.prog (gl + css.length) (.call 48 ⟨al⟩ (heapL (deads ++ os))) (.val v H') := by
  intro al css os p v hs hp hb
  unfold sp48 at hs
  split at hs
  case h_2 => cases hs
  rename_i n c cs sp
  cases hs
  obtain ⟨t, s, ex, t2, s2, e2, rfl⟩ := blks2 hb
  refine ⟨fun x hx => ?_, rfl, ?_⟩
  · simp only [List.mem_cons, List.not_mem_nil, or_false] at hx
    rcases hx with rfl | rfl
    · exact hp.1
    · rfl
  obtain ⟨r, hr, hv⟩ := run91 (sp := sp) hp
  have hL := (L91 (t := t) (s := s) (len := n) (cap := c) (ex := ex) (sp := sp) (t2 := t2) (s2 := s2) (e2 := e2) hp.1).table (id := 2) .none (by decide) trivial hr (by kernel_rfl) [0, 1]
  obtain ⟨H', h'⟩ := Out.vals_sel (x48 cs t s n c ex sp t2 s2 e2 r) (v := b_ (anyB cs n sp)) (by
    rw [v48]
    unfold anyB
    rcases hv with ⟨h1, rfl⟩ | ⟨h0, j, _, rfl, h2, _⟩
    · rw [decide_eq_false (by simpa using h1)]; rfl
    · rw [decide_eq_true h0]
      show some (b_ (leF 0 (j : Int))) = _
      rw [leF_eq, decide_eq_true (by omega)])
  exact ⟨H', execO_sound (C := K48 cs t s n c ex sp t2 s2 e2 r) ts2 hL 60 _ _ h'⟩
theorem c12 : ∀ al css os p v, sp12 al css = some (p, v) → p → Blks css os → (∀ cs ∈ css, cs.all Ex.flat = true) ∧ clean 6 v = true ∧ ∃ H', Sound Tryz.prog (gl + css.length) (.call 12 ⟨al⟩ (heapL (deads ++ os))) (.val v H') := by
  intro al css os p v hs hp hb
  unfold sp12 at hs
  split at hs
  case h_2 => cases hs
  rename_i n c cs
  cases hs
  obtain ⟨t, s, ex, rfl⟩ := blks1 hb
  refine ⟨by simpa using hp.1, rfl, ?_⟩
  obtain ⟨r, hr, hv⟩ := run12 hp
  have hL := (L12 (t := t) (s := s) (len := n) (cap := c) (ex := ex) hp.1).table (id := 4) .none (by decide) trivial hr (by kernel_rfl) [0, 1, 2]
  obtain ⟨H', h'⟩ := Out.vals_sel (x12 cs t s n c ex r) (v := i (cBd cs n)) (by
    rw [v12]
    unfold cBd
    by_cases h : 100 < n
    · simp only [VT.sel, ltF_eq]
      rw [decide_eq_true (by omega), if_pos h]; rfl
    · simp only [VT.sel, ltF_eq]
      rw [decide_eq_false (by omega), if_neg h]
      rcases hv with ⟨h1, rfl⟩ | ⟨h0, j, _, rfl, h2, _⟩
      · rw [h1]; rfl
      · rw [← h2]
        unfold rE
        by_cases hf : fst2 (rgE (pA cs j) 1 100) (rgE (pB cs j) 1 100) = 0
        · have hrj : rE cs j ≠ 0 := by rw [h2]; exact h0
          unfold rE at hrj
          rw [if_neg (by simpa using hf)] at hrj
          have hB : pB cs j < pA cs j ∨ (0 < j ∧ pA cs j < wrapF .i64 (prB cs j + 2)) := by
            by_cases hB : pB cs j < pA cs j ∨ (0 < j ∧ pA cs j < wrapF .i64 (prB cs j + 2))
            · exact hB
            · rw [if_neg hB] at hrj; exact absurd rfl hrj
          rw [if_neg (by simpa using hf), if_neg (by simpa using hf), if_pos hB]; rfl
        · rw [if_pos hf, if_pos hf]; rfl)
  exact ⟨H', execO_sound (C := K12 cs t s n c ex r) ts2 hL 60 _ _ h'⟩
def cB4 (cs : List Value) (n : Nat) : Int := fst2 (mnE n 100) (firstF (bE cs) n 0)
def sp44 : ESpec := fun al css => match al, css with
  | [.slice (some ⟨1, 0, none⟩) n c], [cs] => some (okP cs n c, i (cB4 cs n))
  | _, _ => none
theorem vtF_sel (n : Nat) (e : Int) : (vtF n e).sel = some (i (fst2 (mnE n 100) e)) := by
  unfold vtF
  simp only [VT.sel]
  rw [tru_iff.2 (okI2 _ _)]; rfl
theorem c44 : ∀ al css os p v, sp44 al css = some (p, v) → p → Blks css os → (∀ cs ∈ css, cs.all Ex.flat = true) ∧ clean 6 v = true ∧ ∃ H', Sound Tryz.prog (gl + css.length) (.call 44 ⟨al⟩ (heapL (deads ++ os))) (.val v H') := by
  intro al css os p v hs hp hb
  unfold sp44 at hs
  split at hs
  case h_2 => cases hs
  rename_i n c cs
  cases hs
  obtain ⟨t, s, ex, rfl⟩ := blks1 hb
  refine ⟨by simpa using hp.1, rfl, ?_⟩
  obtain ⟨r, hr, hv⟩ := run112 hp
  have hL := (L112 (t := t) (s := s) (len := n) (cap := c) (ex := ex) hp.1).table (id := 2) .none (by decide) trivial hr (by kernel_rfl) [0, 1, 2]
  obtain ⟨H', h'⟩ := Out.vals_sel (x44 cs t s n c ex r) (v := i (cB4 cs n)) (by
    rw [v44]
    unfold cB4
    rcases hv with ⟨h1, rfl⟩ | ⟨h0, j, _, rfl, h2, _⟩
    · rw [h1]; exact vtF_sel n 0
    · rw [← h2]
      unfold vt44
      by_cases hle : pA cs j ≤ pB cs j
      · rw [if_pos hle]
        show (vtF n (err3 cs (j : Int) (od1 (prB cs j) (pA cs j)))).sel = _
        rw [vtF_sel]
        congr 3
        unfold err3 bE oE od1
        rw [leF_eq]
        by_cases hw : wrapF .i64 (prB cs j + 2) ≤ pA cs j
        · rw [decide_eq_true hw, if_pos ⟨hle, hw⟩]; rfl
        · rw [decide_eq_false hw, if_neg (fun x => hw x.2)]; rfl
      · rw [if_neg hle]
        show (vtF n (err3 cs (j : Int) 11)).sel = _
        rw [vtF_sel]
        congr 3
        unfold err3 bE oE
        rw [if_neg (fun x => hle x.1)]; rfl)
  exact ⟨H', execO_sound (C := K44 cs t s n c ex r) ts2 hL 60 _ _ h'⟩
noncomputable def T3 : Tb := ext (ext (ext (ext (ext (ext T2 46 (autoE sp46 [] (heapL deads))) 13 (autoE sp13 [] (heapL deads))) 48 (autoE sp48 [] (heapL deads))) 12 (autoE sp12 [] (heapL deads))) 44 (autoE sp44 [] (heapL deads))) 14 (pureE s14 [] Hd)
theorem ts3 {G : Nat} : TSound Tryz.prog G T3 := by
  refine TSound.pure hd_vars (((((ts2.auto c46).auto c13).auto c48).auto c12).auto c44) fun args v h => ?_
  unfold s14 at h
  split at h
  · cases h; exact p14 _
  · cases h
end Go.Proofs.YtdnogbdfiahcaaaGreat.Ways
