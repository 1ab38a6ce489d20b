import Derived.Test.YteemponkignnhaaGreatEngEnt
import Derived.Test.YteemponkignnhaaGreatProg
import Derived.WalkKit
import Derived.Test.YteemponkignnhaaGreatEngMk
noncomputable section
namespace Go.Proofs.YteemponkignnhaaGreat.Ways
open Go Go.Ex Go.RowKit
def i (n : Int) : Value := .int .i64 n
def b_ (b : Bool) : Value := .bool b
def sl (b o l k : Nat) : Value := .slice (some ⟨b, o, none⟩) l k
def pt (b o : Nat) : Value := .pointer (some ⟨b, o, none⟩)
def ag (l : List Value) : Value := .agg ⟨l⟩
def tp (l : List Value) : Value := .tuple ⟨l⟩
def fn (f : Nat) : Value := .func (.func f) #[] #[]
def fnc (f : Nat) (c : List Value) : Value := .func (.func f) #[] ⟨c⟩
def on_ (l : List (Nat × Nat)) (f d : Nat) : Bool := l.any fun x => Nat.beq x.1 f && Nat.beq x.2 d
def at_ (l : List (Nat × Nat)) (s : Split) (rest : Nat → Nat → Split) (f d : Nat) : Split := cond (l.any fun x => Nat.beq x.1 f && Nat.beq x.2 d) s (rest f d)
def no_ (_ _ : Nat) : Split := .no
def off_ (_ _ : Nat) : Bool := false
noncomputable def Hd : CH := Hp.nil.push .dead
noncomputable def C1 : Cfg := ⟨noT, at_ [(54, 9), (62, 5), (16, 9), (16, 14)] .bool no_, off_, noL⟩
end Go.Proofs.YteemponkignnhaaGreat.Ways
noncomputable section
namespace Go.Proofs.YteemponkignnhaaGreat.Ways
open Go Go.Ex Go.RowKit
theorem wrapF_in {n : Int} (h1 : -9223372036854775808 ≤ n) (h2 : n ≤ 9223372036854775807) : wrapF .i64 n = n := by
  rw [wrapF_eq, IntKind.wrap_i64]; omega
theorem eqF_d (a b : Int) : eqF a b = decide (a = b) := by
  rw [eqF_eq, Bool.eq_iff_iff]; simp
theorem hd_len : Hd.length = 1 := rfl
theorem hd_dead : AllDead Hd := by
  intro b o h
  have hb : b < 1 := Hp.lt h
  match b, hb with
  | 0, _ =>
    have := Option.some.inj (h.symm.trans (rfl : Hd[0]? = some .dead))
    rw [this]; rfl
theorem hd_vars : Vars Hd [] := .of_dead rfl hd_dead
def rgE (x lo hi : Int) : Int := if lo ≤ x ∧ x ≤ hi then 0 else 3
def mnE (x m : Int) : Int := if x ≤ m then 0 else 5
theorem p68 (x lo hi : Int) : Pure Tryz.prog Hd 54 [i x, i lo, i hi] (i (rgE x lo hi)) := by
  refine pure_run (C := C1) (G := 1) 30 (.br (leF lo x) (.br (leF x hi) (.leaf (i 0)) (.leaf (i 3))) (.br (false) (.leaf (i 0)) (.leaf (i 3)))) .none .none (by decide) hd_len rfl (by kernel_rfl) (by kernel_rfl) ?_
  unfold rgE
  by_cases h1 : lo ≤ x <;> by_cases h2 : x ≤ hi <;> simp [VT.sel, leF_eq, h1, h2]
theorem p31 (x lo hi : Int) : Pure Tryz.prog Hd 16 [i x, i lo, i hi] (i (rgE x lo hi)) := by
  refine pure_run (C := C1) (G := 1) 30 (.br (ltF x lo) (.br (true) (.leaf (i 3)) (.leaf (i 0))) (.br (ltF hi x) (.leaf (i 3)) (.leaf (i 0)))) .none .none (by decide) hd_len rfl (by kernel_rfl) (by kernel_rfl) ?_
  unfold rgE
  by_cases h1 : x < lo
  · have : ¬ lo ≤ x := by omega
    simp [VT.sel, ltF_eq, h1, this]
  · by_cases h2 : hi < x
    · have h3 : ¬ x ≤ hi := by omega
      simp [VT.sel, ltF_eq, h1, h2, h3]
    · have h3 : lo ≤ x ∧ x ≤ hi := by omega
      simp [VT.sel, ltF_eq, h1, h2, h3]
theorem p53 (x m : Int) : Pure Tryz.prog Hd 72 [i x, i m] (i (mnE x m)) := by
  refine pure_run (C := C1) (G := 1) 30 (.br (leF x m) (.leaf (i 0)) (.leaf (i 5))) .none .none (by decide) hd_len rfl (by kernel_rfl) (by kernel_rfl) ?_
  unfold mnE
  by_cases h1 : x ≤ m <;> simp [VT.sel, leF_eq, h1]
def s3 : List Value → Option Value
  | [.int .i64 x, .int .i64 lo, .int .i64 hi] => some (i (rgE x lo hi))
  | _ => none
def s53 : List Value → Option Value
  | [.int .i64 x, .int .i64 m] => some (i (mnE x m))
  | _ => none
noncomputable def T1 : Tb := ext (ext (ext noT 54 (pureE s3 [] Hd)) 16 (pureE s3 [] Hd)) 72 (pureE s53 [] Hd)
theorem ts1 {G : Nat} : TSound Tryz.prog G T1 := by
  refine ((TSound.none.pure hd_vars fun args v h => ?_).pure hd_vars fun args v h => ?_).pure hd_vars fun args v h => ?_
  · unfold s3 at h
    split at h
    · cases h; exact p68 _ _ _
    · cases h
  · unfold s3 at h
    split at h
    · cases h; exact p31 _ _ _
    · cases h
  · unfold s53 at h
    split at h
    · cases h; exact p53 _ _
    · cases h
end Go.Proofs.YteemponkignnhaaGreat.Ways
noncomputable section
namespace Go.Proofs.YteemponkignnhaaGreat.Ways
open Go Go.Ex Go.RowKit
def eI (cs : List Value) (j : Nat) : Int := intO cs[0 + j * 1]?
def okI (cs : List Value) (n c : Nat) : Prop := cs.all Ex.flat = true ∧ n ≤ c ∧ n < 4000000000000000000 ∧ ∀ j, j < n → isCellB (.i .i64) cs[0 + j * 1]? = true
def bnd_ (n : Int) (len cap : Nat) : Bool := leF 0 n && (ltF n len && decide (len ≤ cap))
theorem bnd_t {j len cap : Nat} (h : j < len) (hc : len ≤ cap) : bnd_ (j : Int) len cap = true := by
  unfold bnd_
  rw [leF_eq, ltF_eq, decide_eq_true (by omega), decide_eq_true (by omega), decide_eq_true hc]; rfl
theorem wsucc {j : Nat} (h : j < 4000000000000000000) : wrapF .i64 ((j : Int) + 1) = ((j + 1 : Nat) : Int) := by rw [wrapF_in (by omega) (by omega)]; rfl
noncomputable def B52 : Code := bodyL Tryz.f53 2
noncomputable def B30 : Code := bodyL Tryz.f15 2
noncomputable def sp2 : Nat → Nat → Split := at_ [(53, 8), (53, 12), (15, 7), (15, 14)] .bool no_
def sy2 : Nat → Nat → Bool := on_ [(53, 9), (53, 10), (15, 12), (15, 13), (15, 17), (15, 18)]
noncomputable def C2 : Cfg := ⟨T1, sp2, sy2, noL⟩
section
variable (cs : List Value) (t s len cap : Nat) (ex : Bool)
def hpI : List (CO × Bool) := [(.dead, false), (.cells cs t s ex, true)]
theorem hpI_flat {cs : List Value} {t s : Nat} {ex : Bool} (h : cs.all Ex.flat = true) : ∀ o, (o, true) ∈ hpI cs t s ex → FlatO o := by
  intro o ho
  simp [hpI] at ho
  subst ho
  exact fun x hx => List.all_eq_true.1 h x hx
def cB (k : CK) (n : Int) : Bool := isCellB k cs[0 + n.toNat * 1]?
def S52 : Shape Int := ⟨15, fun n => ⟨[(5, sl 1 0 len cap), (6, i len), (7, i n)], hpI cs t s ex⟩, fun j n => match j with
  | 0 => (.exit 0, ⟨[], hpI cs t s ex⟩)
  | _ => (.ret, ⟨[(2, i (eI cs n.toNat))], hpI cs t s ex⟩)⟩
def st52 (n : Int) : SS Int := .br (ltF n len) (askS (bnd_ n len cap) <| askS (cB cs (.i .i64) n) <| .br (!eqF (eI cs n.toNat) 0) (.done 2 [0, 1] 1) (.next 2 [0, 1] (wrapF .i64 (n + 1)))) (.done 2 [0, 1] 0)
def S30 : Shape Int := ⟨19, fun n => ⟨[(0, sl 1 0 len cap), (3, i n)], hpI cs t s ex⟩, fun j n => match j with
  | 0 => (.exit 0, ⟨[], hpI cs t s ex⟩)
  | _ => (.ret, ⟨[(2, i (eI cs n.toNat))], hpI cs t s ex⟩)⟩
def st30 (n : Int) : SS Int := .br (ltF n len) (askS (bnd_ n len cap) <| askS (cB cs (.i .i64) n) <| .br (!eqF (eI cs n.toNat) 0) (askS (bnd_ n len cap) <| askS (cB cs (.i .i64) n) <| .done 2 [0, 1] 1) (.next 2 [0, 1] (wrapF .i64 (n + 1)))) (.done 2 [0, 1] 0)
end
section
variable {cs : List Value} {t s len cap : Nat} {ex : Bool}
theorem L52 (h : cs.all Ex.flat = true) : Loop1 Tryz.prog 2 53 B52 (S52 cs t s len cap ex) 2 (st52 cs len cap) (fun _ => True) :=
  .mk' (C := fun _ => C2) (n := 40) (fun _ _ => ts1) (fun _ _ => .none) (fun s ro _ => by kernel_rfl) (fun s ro _ => by kernel_rfl) (fun s => by kernel_rfl) (fun _ _ _ _ => trivial) (fun _ _ => hpI_flat h)
    (fun s j _ _ => by cases j <;> exact ⟨hpI_flat h, fun h => by cases h⟩)
theorem L30 (h : cs.all Ex.flat = true) : Loop1 Tryz.prog 2 15 B30 (S30 cs t s len cap ex) 2 (st30 cs len cap) (fun _ => True) :=
  .mk' (C := fun _ => C2) (n := 40) (fun _ _ => ts1) (fun _ _ => .none) (fun s ro _ => by kernel_rfl) (fun s ro _ => by kernel_rfl) (fun s => by kernel_rfl) (fun _ _ _ _ => trivial) (fun _ _ => hpI_flat h)
    (fun s j _ _ => by cases j <;> exact ⟨hpI_flat h, fun h => by cases h⟩)
theorem run52 (h : okI cs len cap) : ∃ r, runS (st52 cs len cap) (len + 1) 0 = some r ∧ ((firstF (eI cs) len 0 = 0 ∧ r = (0, (len : Int))) ∨ (firstF (eI cs) len 0 ≠ 0 ∧ ∃ j : Nat, j < len ∧ r = (1, (j : Int)) ∧ eI cs j = firstF (eI cs) len 0 ∧ ∀ k, k < j → eI cs k = 0)) := by
  obtain ⟨_, hc, hl, hk⟩ := h
  refine run_first (st := fun j => ((j : Nat) : Int)) (e := eI cs) (a := 0) (b := fun _ => 1) len (fun j hj he => ?_) (fun j hj he => ?_) ?_
  · unfold st52
    rw [br_t (by rw [ltF_eq]; simpa using hj), askS_sel (bnd_t hj hc), askS_sel (by exact hk j hj), br_f (by rw [eqF_d]; simp [he]), wsucc (by omega)]; rfl
  · unfold st52
    rw [br_t (by rw [ltF_eq]; simpa using hj), askS_sel (bnd_t hj hc), askS_sel (by exact hk j hj), br_t (by rw [eqF_d]; simp [he])]; rfl
  · unfold st52
    rw [br_f (by rw [ltF_eq]; simp)]; rfl
theorem run30 (h : okI cs len cap) : ∃ r, runS (st30 cs len cap) (len + 1) 0 = some r ∧ ((firstF (eI cs) len 0 = 0 ∧ r = (0, (len : Int))) ∨ (firstF (eI cs) len 0 ≠ 0 ∧ ∃ j : Nat, j < len ∧ r = (1, (j : Int)) ∧ eI cs j = firstF (eI cs) len 0 ∧ ∀ k, k < j → eI cs k = 0)) := by
  obtain ⟨_, hc, hl, hk⟩ := h
  refine run_first (st := fun j => ((j : Nat) : Int)) (e := eI cs) (a := 0) (b := fun _ => 1) len (fun j hj he => ?_) (fun j hj he => ?_) ?_
  · unfold st30
    rw [br_t (by rw [ltF_eq]; simpa using hj), askS_sel (bnd_t hj hc), askS_sel (by exact hk j hj), br_f (by rw [eqF_d]; simp [he]), wsucc (by omega)]; rfl
  · unfold st30
    rw [br_t (by rw [ltF_eq]; simpa using hj), askS_sel (bnd_t hj hc), askS_sel (by exact hk j hj), br_t (by rw [eqF_d]; simp [he]), askS_sel (bnd_t hj hc), askS_sel (by exact hk j hj)]; rfl
  · unfold st30
    rw [br_f (by rw [ltF_eq]; simp)]; rfl
end
end Go.Proofs.YteemponkignnhaaGreat.Ways
noncomputable section
namespace Go.Proofs.YteemponkignnhaaGreat.Ways
open Go Go.Ex Go.RowKit
def sp52 : ESpec := fun al css => match al, css with
  | [.slice (some ⟨1, 0, none⟩) n c], [cs] => some (okI cs n c, i (firstF (eI cs) n 0))
  | _, _ => none
section
variable (cs : List Value) (t s len cap : Nat) (ex : Bool)
noncomputable def K52 (r : Nat × Int) : Cfg := ⟨T1, sp2, sy2, loopE noL 53 2 15 2 B52 ((S52 cs t s len cap ex).st 0).live ((S52 cs t s len cap ex).st 0).hp (finO (S52 cs t s len cap ex) r [0, 1])⟩
noncomputable def K30 (r : Nat × Int) : Cfg := ⟨T1, sp2, sy2, loopE noL 15 2 19 2 B30 ((S30 cs t s len cap ex).st 0).live ((S30 cs t s len cap ex).st 0).hp (finO (S30 cs t s len cap ex) r [0, 1])⟩
def vt1 (r : Nat × Int) : VT := .br (Nat.beq r.1 0) (.leaf (i 0)) (.br (Nat.beq r.1 1) (.leaf (i (eI cs r.2.toNat))) .fail)
theorem v52 (r : Nat × Int) : (execO Tryz.prog 2 (K52 cs t s len cap ex r) 40 (.call 53 ⟨[sl 1 0 len cap]⟩ (heapL [.dead, .cells cs t s ex]))).vals = vt1 cs r := by kernel_rfl
theorem x52 (r : Nat × Int) : execO Tryz.prog 2 (K52 cs t s len cap ex r) 40 (.call 53 ⟨[sl 1 0 len cap]⟩ (heapL [.dead, .cells cs t s ex])) = (execO Tryz.prog 2 (K52 cs t s len cap ex r) 40 (.call 53 ⟨[sl 1 0 len cap]⟩ (heapL [.dead, .cells cs t s ex]))).fix := by kernel_rfl
theorem v30 (r : Nat × Int) : (execO Tryz.prog 2 (K30 cs t s len cap ex r) 40 (.call 15 ⟨[sl 1 0 len cap]⟩ (heapL [.dead, .cells cs t s ex]))).vals = vt1 cs r := by kernel_rfl
theorem x30 (r : Nat × Int) : execO Tryz.prog 2 (K30 cs t s len cap ex r) 40 (.call 15 ⟨[sl 1 0 len cap]⟩ (heapL [.dead, .cells cs t s ex])) = (execO Tryz.prog 2 (K30 cs t s len cap ex r) 40 (.call 15 ⟨[sl 1 0 len cap]⟩ (heapL [.dead, .cells cs t s ex]))).fix := by kernel_rfl
end
theorem vt1_sel {cs : List Value} {len : Nat} {r : Nat × Int} (h : (firstF (eI cs) len 0 = 0 ∧ r = (0, (len : Int))) ∨ (firstF (eI cs) len 0 ≠ 0 ∧ ∃ j : Nat, j < len ∧ r = (1, (j : Int)) ∧ eI cs j = firstF (eI cs) len 0 ∧ ∀ k, k < j → eI cs k = 0)) : (vt1 cs r).sel = some (i (firstF (eI cs) len 0)) := by
  rcases h with ⟨h1, rfl⟩ | ⟨_, j, _, rfl, h2, _⟩
  · rw [h1]; rfl
  · rw [← h2]; rfl
theorem c52 : ∀ al css os p v, sp52 al css = some (p, v) → p → Blks css os → (∀ cs ∈ css, cs.all Ex.flat = true) ∧ clean 6 v = true ∧ ∃ H', Sound Tryz.prog (gl + css.length) (.call 53 ⟨al⟩ (heapL (deads ++ os))) (.val v H') := by
  intro al css os p v hs hp hb
  unfold sp52 at hs
  split at hs
  case h_2 => cases hs
  rename_i n c cs
  cases hs
  obtain ⟨t, s, ex, rfl⟩ := blks1 hb
  refine ⟨by simpa using hp.1, rfl, ?_⟩
  obtain ⟨r, hr, hv⟩ := run52 hp
  have hL := (L52 (t := t) (s := s) (len := n) (cap := c) (ex := ex) hp.1).table (id := 2) .none (by decide) trivial hr (by kernel_rfl) [0, 1]
  obtain ⟨H', h'⟩ := Out.vals_sel (x52 cs t s n c ex r) (v := i (firstF (eI cs) n 0)) (by rw [v52]; exact vt1_sel hv)
  exact ⟨H', execO_sound (C := K52 cs t s n c ex r) ts1 hL 40 _ _ h'⟩
theorem c30 : ∀ al css os p v, sp52 al css = some (p, v) → p → Blks css os → (∀ cs ∈ css, cs.all Ex.flat = true) ∧ clean 6 v = true ∧ ∃ H', Sound Tryz.prog (gl + css.length) (.call 15 ⟨al⟩ (heapL (deads ++ os))) (.val v H') := by
  intro al css os p v hs hp hb
  unfold sp52 at hs
  split at hs
  case h_2 => cases hs
  rename_i n c cs
  cases hs
  obtain ⟨t, s, ex, rfl⟩ := blks1 hb
  refine ⟨by simpa using hp.1, rfl, ?_⟩
  obtain ⟨r, hr, hv⟩ := run30 hp
  have hL := (L30 (t := t) (s := s) (len := n) (cap := c) (ex := ex) hp.1).table (id := 2) .none (by decide) trivial hr (by kernel_rfl) [0, 1]
  obtain ⟨H', h'⟩ := Out.vals_sel (x30 cs t s n c ex r) (v := i (firstF (eI cs) n 0)) (by rw [v30]; exact vt1_sel hv)
  exact ⟨H', execO_sound (C := K30 cs t s n c ex r) ts1 hL 40 _ _ h'⟩
noncomputable def T2 : Tb := ext (ext T1 53 (autoE sp52 [] (heapL deads))) 15 (autoE sp52 [] (heapL deads))
theorem ts2 {G : Nat} : TSound Tryz.prog G T2 := (ts1.auto c52).auto c30
def fst2 (a b : Int) : Int := firstF (eI [i a, i b]) 2 0
def fst3 (a b c : Int) : Int := firstF (eI [i a, i b, i c]) 3 0
def fst4 (a b c d : Int) : Int := firstF (eI [i a, i b, i c, i d]) 4 0
theorem fst2_eq (a b : Int) : fst2 a b = if a ≠ 0 then a else if b ≠ 0 then b else 0 := rfl
theorem okI2 (a b : Int) : okI [i a, i b] 2 2 := ⟨rfl, by decide, by decide, fun j hj => by
  match j, hj with
  | 0, _ => rfl
  | 1, _ => rfl⟩
theorem okI3 (a b c : Int) : okI [i a, i b, i c] 3 3 := ⟨rfl, by decide, by decide, fun j hj => by
  match j, hj with
  | 0, _ => rfl
  | 1, _ => rfl
  | 2, _ => rfl⟩
theorem okI4 (a b c d : Int) : okI [i a, i b, i c, i d] 4 4 := ⟨rfl, by decide, by decide, fun j hj => by
  match j, hj with
  | 0, _ => rfl
  | 1, _ => rfl
  | 2, _ => rfl
  | 3, _ => rfl⟩
def k2 : List CK := [.i .i64, .i .i64]
def pA (cs : List Value) (j : Nat) : Int := intO cs[0 + j * 2]?
def pB (cs : List Value) (j : Nat) : Int := intO cs[0 + j * 2 + 1]?
def okP (cs : List Value) (n c : Nat) : Prop := cs.all Ex.flat = true ∧ n ≤ c ∧ n < 4000000000000000000 ∧ ∀ j, j < n → areCells k2 cs (0 + j * 2) = true
theorem okP_a {cs : List Value} {n c j : Nat} (h : okP cs n c) (hj : j < n) : isCellB (.i .i64) cs[0 + j * 2]? = true ∧ isCellB (.i .i64) cs[0 + j * 2 + 1]? = true := by
  have := h.2.2.2 j hj
  unfold k2 areCells areCells areCells at this
  simp only [Bool.and_eq_true, Bool.and_true] at this
  exact this
end Go.Proofs.YteemponkignnhaaGreat.Ways
noncomputable section
namespace Go.Proofs.YteemponkignnhaaGreat.Ways
open Go Go.Ex Go.RowKit
def ldE (x : Int) : Int := rgE x (-32768) 32768
theorem p50 (x : Int) : Pure Tryz.prog Hd 69 [i x] (i (ldE x)) :=
  pure_run (C := ⟨T2, no_, off_, noL⟩) (G := 1) 30 (.leaf (i (ldE x))) ts2 .none (by decide) hd_len rfl (by kernel_rfl) (by kernel_rfl) rfl
theorem p55 (x : Int) : Pure Tryz.prog Hd 103 [i x] (i (ldE x)) :=
  pure_run (C := ⟨T2, no_, off_, noL⟩) (G := 1) 30 (.leaf (i (ldE x))) ts2 .none (by decide) hd_len rfl (by kernel_rfl) (by kernel_rfl) rfl
def sLd : List Value → Option Value
  | [.int .i64 x] => some (i (ldE x))
  | _ => none
noncomputable def T3 : Tb := ext (ext T2 69 (pureE sLd [] Hd)) 103 (pureE sLd [] Hd)
theorem ts3 {G : Nat} : TSound Tryz.prog G T3 := by
  refine (ts2.pure hd_vars fun args v h => ?_).pure hd_vars fun args v h => ?_
  · unfold sLd at h
    split at h
    · cases h; exact p50 _
    · cases h
  · unfold sLd at h
    split at h
    · cases h; exact p55 _
    · cases h
noncomputable def B54 : Code := bodyL Tryz.f108 2
noncomputable def B13 : Code := bodyL Tryz.f29 4
noncomputable def sp4 : Nat → Nat → Split := at_ [(108, 11), (108, 18), (29, 7), (29, 11), (29, 20)] .bool no_
def sy4 : Nat → Nat → Bool := on_ [(108, 12), (108, 13), (29, 16), (29, 17)]
noncomputable def C4 : Cfg := ⟨T3, sp4, sy4, noL⟩
def eLd (cs : List Value) (j : Nat) : Int := ldE (eI cs j)
section
variable (cs : List Value) (t s len cap : Nat) (ex : Bool)
def S54 : Shape Int := ⟨21, fun n => ⟨[(1, fn 103), (8, sl 1 0 len cap), (9, i len), (10, i n)], hpI cs t s ex⟩, fun j n => match j with
  | 0 => (.exit 0, ⟨[], hpI cs t s ex⟩)
  | _ => (.ret, ⟨[(4, i (eLd cs n.toNat))], hpI cs t s ex⟩)⟩
def S13 : Shape Int := ⟨22, fun n => ⟨[(0, sl 1 0 len cap), (3, i n)], hpI cs t s ex⟩, fun j n => match j with
  | 0 => (.exit 0, ⟨[], hpI cs t s ex⟩)
  | _ => (.ret, ⟨[(2, i (eLd cs n.toNat))], hpI cs t s ex⟩)⟩
def st54 (n : Int) : SS Int := .br (ltF n len) (askS (bnd_ n len cap) <| askS (cB cs (.i .i64) n) <| .br (!eqF (eLd cs n.toNat) 0) (.done 2 [0, 1] 1) (.next 2 [0, 1] (wrapF .i64 (n + 1)))) (.done 2 [0, 1] 0)
noncomputable def K54 (r : Nat × Int) : Cfg := ⟨T3, sp4, sy4, loopE noL 108 2 21 2 B54 ((S54 cs t s len cap ex).st 0).live ((S54 cs t s len cap ex).st 0).hp (finO (S54 cs t s len cap ex) r [0, 1])⟩
noncomputable def K13 (r : Nat × Int) : Cfg := ⟨T3, sp4, sy4, loopE noL 29 4 22 2 B13 ((S13 cs t s len cap ex).st 0).live ((S13 cs t s len cap ex).st 0).hp (finO (S13 cs t s len cap ex) r [0, 1])⟩
def vt4 (r : Nat × Int) : VT := .br (Nat.beq r.1 0) (.leaf (i 0)) (.br (Nat.beq r.1 1) (.leaf (i (eLd cs r.2.toNat))) .fail)
noncomputable def o54 (r : Nat × Int) : Out QRes := execO Tryz.prog 2 (K54 cs t s len cap ex r) 40 (.call 108 ⟨[sl 1 0 len cap, fn 103]⟩ (heapL [.dead, .cells cs t s ex]))
noncomputable def o13 (r : Nat × Int) : Out QRes := execO Tryz.prog 2 (K13 cs t s len cap ex r) 40 (.call 29 ⟨[sl 1 0 len cap]⟩ (heapL [.dead, .cells cs t s ex]))
theorem v54 (r : Nat × Int) : (o54 cs t s len cap ex r).vals = vt4 cs r := by kernel_rfl
theorem x54 (r : Nat × Int) : o54 cs t s len cap ex r = (o54 cs t s len cap ex r).fix := by kernel_rfl
theorem v13 (r : Nat × Int) : (o13 cs t s len cap ex r).vals = .br (ltF 40000 len) (.leaf (i 5)) (vt4 cs r) := by kernel_rfl
theorem x13 (r : Nat × Int) : o13 cs t s len cap ex r = (o13 cs t s len cap ex r).fix := by kernel_rfl
end
section
variable {cs : List Value} {t s len cap : Nat} {ex : Bool}
theorem L54 (h : cs.all Ex.flat = true) : Loop1 Tryz.prog 2 108 B54 (S54 cs t s len cap ex) 2 (st54 cs len cap) (fun _ => True) :=
  .mk' (C := fun _ => C4) (n := 40) (fun _ _ => ts3) (fun _ _ => .none) (fun s ro _ => by kernel_rfl) (fun s ro _ => by kernel_rfl) (fun s => by kernel_rfl) (fun _ _ _ _ => trivial) (fun _ _ => hpI_flat h)
    (fun s j _ _ => by cases j <;> exact ⟨hpI_flat h, fun h => by cases h⟩)
theorem L13 (h : cs.all Ex.flat = true) : Loop1 Tryz.prog 2 29 B13 (S13 cs t s len cap ex) 2 (st54 cs len cap) (fun _ => True) :=
  .mk' (C := fun _ => C4) (n := 40) (fun _ _ => ts3) (fun _ _ => .none) (fun s ro _ => by kernel_rfl) (fun s ro _ => by kernel_rfl) (fun s => by kernel_rfl) (fun _ _ _ _ => trivial) (fun _ _ => hpI_flat h)
    (fun s j _ _ => by cases j <;> exact ⟨hpI_flat h, fun h => by cases h⟩)
theorem run54 (h : okI cs len cap) : ∃ r, runS (st54 cs len cap) (len + 1) 0 = some r ∧ ((firstF (eLd cs) len 0 = 0 ∧ r = (0, (len : Int))) ∨ (firstF (eLd cs) len 0 ≠ 0 ∧ ∃ j : Nat, j < len ∧ r = (1, (j : Int)) ∧ eLd cs j = firstF (eLd cs) len 0 ∧ ∀ k, k < j → eLd cs k = 0)) := by
  obtain ⟨_, hc, hl, hk⟩ := h
  refine run_first (st := fun j => ((j : Nat) : Int)) (e := eLd cs) (a := 0) (b := fun _ => 1) len (fun j hj he => ?_) (fun j hj he => ?_) ?_
  · unfold st54
    rw [br_t (by rw [ltF_eq]; simpa using hj), askS_sel (bnd_t hj hc), askS_sel (by exact hk j hj), show ((j : Nat) : Int).toNat = j from rfl, br_f (by rw [eqF_d]; simp [he]), wsucc (by omega)]; rfl
  · unfold st54
    rw [br_t (by rw [ltF_eq]; simpa using hj), askS_sel (bnd_t hj hc), askS_sel (by exact hk j hj), show ((j : Nat) : Int).toNat = j from rfl, br_t (by rw [eqF_d]; simp [he])]; rfl
  · unfold st54
    rw [br_f (by rw [ltF_eq]; simp)]; rfl
theorem vt4_sel {r : Nat × Int} (h : (firstF (eLd cs) len 0 = 0 ∧ r = (0, (len : Int))) ∨ (firstF (eLd cs) len 0 ≠ 0 ∧ ∃ j : Nat, j < len ∧ r = (1, (j : Int)) ∧ eLd cs j = firstF (eLd cs) len 0 ∧ ∀ k, k < j → eLd cs k = 0)) : (vt4 cs r).sel = some (i (firstF (eLd cs) len 0)) := by
  rcases h with ⟨h1, rfl⟩ | ⟨_, j, _, rfl, h2, _⟩
  · rw [h1]; rfl
  · rw [← h2]; rfl
end
def clE (cs : List Value) (n : Nat) : Int := if 40000 < n then 5 else firstF (eLd cs) n 0
def sp54 : ESpec := fun al css => match al, css with
  | [.slice (some ⟨1, 0, none⟩) n c, .func (.func 103) ⟨[]⟩ ⟨[]⟩], [cs] => some (okI cs n c, i (firstF (eLd cs) n 0))
  | _, _ => none
def sp13 : ESpec := fun al css => match al, css with
  | [.slice (some ⟨1, 0, none⟩) n c], [cs] => some (okI cs n c, i (clE cs n))
  | _, _ => none
theorem c54 : ∀ al css os p v, sp54 al css = some (p, v) → p → Blks css os → (∀ cs ∈ css, cs.all Ex.flat = true) ∧ clean 6 v = true ∧ ∃ H', Sound Tryz.prog (gl + css.length) (.call 108 ⟨al⟩ (heapL (deads ++ os))) (.val v H') := by
  intro al css os p v hs hp hb
  unfold sp54 at hs
  split at hs
  case h_2 => cases hs
  rename_i n c cs
  cases hs
  obtain ⟨t, s, ex, rfl⟩ := blks1 hb
  refine ⟨by simpa using hp.1, rfl, ?_⟩
  obtain ⟨r, hr, hv⟩ := run54 hp
  have hL := (L54 (t := t) (s := s) (len := n) (cap := c) (ex := ex) hp.1).table (id := 2) .none (by decide) trivial hr (by kernel_rfl) [0, 1]
  obtain ⟨H', h'⟩ := Out.vals_sel (x54 cs t s n c ex r) (v := i (firstF (eLd cs) n 0)) (by rw [v54]; exact vt4_sel hv)
  exact ⟨H', execO_sound (C := K54 cs t s n c ex r) ts3 hL 40 _ _ h'⟩
theorem c13 : ∀ al css os p v, sp13 al css = some (p, v) → p → Blks css os → (∀ cs ∈ css, cs.all Ex.flat = true) ∧ clean 6 v = true ∧ ∃ H', Sound Tryz.prog (gl + css.length) (.call 29 ⟨al⟩ (heapL (deads ++ os))) (.val v H') := by
  intro al css os p v hs hp hb
  unfold sp13 at hs
  split at hs
  case h_2 => cases hs
  rename_i n c cs
  cases hs
  obtain ⟨t, s, ex, rfl⟩ := blks1 hb
  refine ⟨by simpa using hp.1, rfl, ?_⟩
  obtain ⟨r, hr, hv⟩ := run54 hp
  have hL := (L13 (t := t) (s := s) (len := n) (cap := c) (ex := ex) hp.1).table (id := 4) .none (by decide) trivial hr (by kernel_rfl) [0, 1]
  obtain ⟨H', h'⟩ := Out.vals_sel (x13 cs t s n c ex r) (v := i (clE cs n)) (by
    rw [v13]
    unfold clE
    simp only [VT.sel, ltF_eq]
    by_cases h : 40000 < n
    · rw [decide_eq_true (by omega), if_pos h]; rfl
    · rw [decide_eq_false (by omega), if_neg h]
      exact vt4_sel hv)
  exact ⟨H', execO_sound (C := K13 cs t s n c ex r) ts3 hL 40 _ _ h'⟩
noncomputable def T4 : Tb := ext (ext T3 108 (autoE sp54 [] (heapL deads))) 29 (autoE sp13 [] (heapL deads))
theorem ts4 {G : Nat} : TSound Tryz.prog G T4 := (ts3.auto c54).auto c13
noncomputable def o15 (cs : List Value) (t s n c : Nat) (ex : Bool) : Out QRes := execO Tryz.prog 2 ⟨T4, no_, off_, noL⟩ 40 (.call 79 ⟨[sl 1 0 n c]⟩ (heapL [.dead, .cells cs t s ex]))
theorem v15 (cs : List Value) (t s n c : Nat) (ex : Bool) : (o15 cs t s n c ex).vals = .br (tru (okI cs n c)) (.br (tru (okI [i (mnE n 40000), i (firstF (eLd cs) n 0)] 2 2)) (.leaf (i (fst2 (mnE n 40000) (firstF (eLd cs) n 0)))) .fail) .fail := by kernel_rfl
theorem x15 (cs : List Value) (t s n c : Nat) (ex : Bool) : o15 cs t s n c ex = (o15 cs t s n c ex).fix := by kernel_rfl
theorem mnE_nat (x k : Nat) : mnE x k = if k < x then 5 else 0 := by
  unfold mnE
  by_cases h : k < x
  · rw [if_pos h, if_neg (by omega)]
  · rw [if_neg h, if_pos (by omega)]
theorem fst2' (a b : Int) : fst2 a b = if a ≠ 0 then a else b := by
  rw [fst2_eq]
  by_cases h : b = 0
  · rw [if_neg (show ¬ b ≠ 0 by simpa using h), h]
  · rw [if_pos h]
theorem cl_eq (cs : List Value) (n : Nat) : fst2 (mnE n 40000) (firstF (eLd cs) n 0) = clE cs n := by
  unfold clE
  rw [fst2', show mnE n 40000 = if 40000 < n then 5 else 0 from mnE_nat n 40000]
  by_cases h : 40000 < n
  · rw [if_pos h, if_pos h]; rfl
  · rw [if_neg h, if_neg h]; rfl
theorem c15 : ∀ al css os p v, sp13 al css = some (p, v) → p → Blks css os → (∀ cs ∈ css, cs.all Ex.flat = true) ∧ clean 6 v = true ∧ ∃ H', Sound Tryz.prog (gl + css.length) (.call 79 ⟨al⟩ (heapL (deads ++ os))) (.val v H') := by
  intro al css os p v hs hp hb
  unfold sp13 at hs
  split at hs
  case h_2 => cases hs
  rename_i n c cs
  cases hs
  obtain ⟨t, s, ex, rfl⟩ := blks1 hb
  refine ⟨by simpa using hp.1, rfl, ?_⟩
  obtain ⟨H', h'⟩ := Out.vals_sel (x15 cs t s n c ex) (v := i (clE cs n)) (by
    rw [v15]
    simp only [VT.sel]
    rw [tru_iff.2 hp, tru_iff.2 (okI2 _ _), cl_eq]; rfl)
  exact ⟨H', execO_sound (C := ⟨T4, no_, off_, noL⟩) ts4 .none 40 _ _ h'⟩
def okC (bs : List Value) (n c : Nat) : Prop := okI bs n c ∧ bs.length = n ∧ n ≤ 1048576
section
variable (bs : List Value) (t s n c : Nat) (ex : Bool)
noncomputable def o12z : Out QRes := execO Tryz.prog 2 ⟨T4, no_, off_, noL⟩ 60 (.call 26 ⟨[sl 1 0 0 c]⟩ (heapL (deads ++ [.cells bs t s ex])))
theorem v12z : (o12z bs t s c ex).news = .leaf 2 (.sl 0 0 [] 3 1 true) := by kernel_rfl
theorem x12z : o12z bs t s c ex = (o12z bs t s c ex).fix := by kernel_rfl
noncomputable def o12 : Out QRes := execO Tryz.prog 2 ⟨T4, no_, on_ [(26, 5), (26, 200005)], noL⟩ 60 (.call 26 ⟨[sl 1 0 n c]⟩ (heapL (deads ++ [.cells bs t s ex])))
theorem v12 : (o12 bs t s n c ex).news = .br (!decide (n = 0) && (decide (n ≤ c) && (decide (n ≤ 1048576) && decide (0 + n * 1 ≤ bs.length)))) (.leaf 3 (.sl n n ((bs.drop 0).take (n * 1)) 3 1 false)) .fail := by kernel_rfl
theorem x12 : o12 bs t s n c ex = (o12 bs t s n c ex).fix := by kernel_rfl
end
def sp12 : XSpec := fun al os => match al, os with
  | [.slice (some ⟨1, 0, none⟩) n c], [.cells bs _ _ _] => some (okC bs n c, .sl n n bs 3 1 false)
  | _, _ => none
theorem c12 : ∀ al os p v, sp12 al os = some (p, v) → p → (∀ o ∈ os.drop 0, FlatO o) ∧ v.OkX Tryz.prog 26 al deads os (gl + os.length) := by
  intro al os p v hs hp
  unfold sp12 at hs
  split at hs
  case h_2 => cases hs
  rename_i n c bs t s ex
  cases hs
  obtain ⟨p1, p2, p3⟩ := hp
  refine ⟨fun o ho => ?_, ?_⟩
  · rw [List.drop_zero, List.mem_singleton] at ho
    subst ho
    exact fun x hx => List.all_eq_true.1 p1.1 x hx
  by_cases h0 : n = 0
  · subst h0
    have hb : bs = [] := List.eq_nil_of_length_eq_zero p2
    subst hb
    obtain ⟨h1, b, H', ex', h3, _, h5, h6⟩ := (news_ok (C := ⟨T4, no_, off_, noL⟩) (n := 60) ts4 .none (x12z [] t s c ex) (b := 2) (by rw [show execO Tryz.prog 2 ⟨T4, no_, off_, noL⟩ 60 (.call 26 ⟨[sl 1 0 0 c]⟩ (heapL (deads ++ [.cells [] t s ex]))) = o12z [] t s c ex from rfl, v12z]; rfl) (by decide) (show NRes.Fl (.sl 0 0 [] 3 1 true) from rfl)).x
    exact ⟨rfl, b, H', ex', h3, (fun h => by cases h), h5, h6⟩
  · have ht : (bs.drop 0).take (n * 1) = bs := by rw [List.drop_zero, Nat.mul_one, List.take_of_length_le (by omega)]
    refine (news_ok (C := ⟨T4, no_, on_ [(26, 5), (26, 200005)], noL⟩) (n := 60) ts4 .none (x12 bs t s n c ex) (b := 3) ?_ (by decide) (show NRes.Fl (.sl n n bs 3 1 false) from p1.1)).x
    rw [show execO Tryz.prog 2 ⟨T4, no_, on_ [(26, 5), (26, 200005)], noL⟩ 60 (.call 26 ⟨[sl 1 0 n c]⟩ (heapL (deads ++ [.cells bs t s ex]))) = o12 bs t s n c ex from rfl, v12, ht, decide_eq_false h0, decide_eq_true p1.2.1, decide_eq_true (by omega), decide_eq_true (by omega)]; rfl
noncomputable def T5 : Tb := ext (ext T4 79 (autoE sp13 [] (heapL deads))) 26 (xE 0 rd0 sp12 [] (heapL deads))
theorem ts5 {G : Nat} : TSound Tryz.prog G T5 := (ts4.auto c15).x c12
end Go.Proofs.YteemponkignnhaaGreat.Ways
