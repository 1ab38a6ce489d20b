import Derived.Test.YtafpmehhdcmllaaGreatDoorEngEnt
import Derived.Test.YtafpmehhdcmllaaGreatDoorEngKeys
import Derived.Test.YtafpmehhdcmllaaGreatDoorProg
import Derived.WalkKit
import Derived.Test.YtafpmehhdcmllaaGreatDoorEngMul
import Derived.Test.YtafpmehhdcmllaaGreatDoorEngMk
noncomputable section
namespace Go.Proofs.YtafpmehhdcmllaaGreatDoor.Ways
open Go Go.Ex Go.RowKit
def i (n : Int) : Value := .int .i64 n
def b_ (b : Bool) : Value := .bool b
def sl (b o l k : Nat) : Value := .slice (some ⟨b, o, none⟩) l k
def pt (b o : Nat) : Value := .pointer (some ⟨b, o, none⟩)
def ag (l : List Value) : Value := .agg ⟨l⟩
def tp (l : List Value) : Value := .tuple ⟨l⟩
def fn (f : Nat) : Value := .func (.func f) #[] #[]
def fnc (f : Nat) (c : List Value) : Value := .func (.func f) #[] ⟨c⟩
def on_ (l : List (Nat × Nat)) (f d : Nat) : Bool := l.any fun x => Nat.beq x.1 f && Nat.beq x.2 d
def at_ (l : List (Nat × Nat)) (s : Split) (rest : Nat → Nat → Split) (f d : Nat) : Split := cond (l.any fun x => Nat.beq x.1 f && Nat.beq x.2 d) s (rest f d)
def no_ (_ _ : Nat) : Split := .no
def off_ (_ _ : Nat) : Bool := false
noncomputable def Hd : CH := (((Hp.nil.push .dead).push .dead).push .dead).push .dead
theorem hd_len : Hd.length = 4 := rfl
theorem hd_dead : AllDead Hd := by
  intro b o h
  have hb : b < 4 := Hp.lt h
  match b, hb with
  | 0, _ => have : o = .dead := Option.some.inj (h.symm.trans (rfl : Hd[0]? = some .dead)); rw [this]; rfl
  | 1, _ => have : o = .dead := Option.some.inj (h.symm.trans (rfl : Hd[1]? = some .dead)); rw [this]; rfl
  | 2, _ => have : o = .dead := Option.some.inj (h.symm.trans (rfl : Hd[2]? = some .dead)); rw [this]; rfl
  | 3, _ => have : o = .dead := Option.some.inj (h.symm.trans (rfl : Hd[3]? = some .dead)); rw [this]; rfl
theorem hd_vars : Vars Hd [] := .of_dead hd_len hd_dead
end Go.Proofs.YtafpmehhdcmllaaGreatDoor.Ways
noncomputable section
namespace Go.Proofs.YtafpmehhdcmllaaGreatDoor.Ways
open Go Go.Ex Go.RowKit
theorem wrapF_in {n : Int} (h1 : -9223372036854775808 ≤ n) (h2 : n ≤ 9223372036854775807) : wrapF .i64 n = n := by
  rw [wrapF_eq, IntKind.wrap_i64]; omega
theorem eqF_d (a b : Int) : eqF a b = decide (a = b) := by
  rw [eqF_eq, Bool.eq_iff_iff]; simp
def rgE (x lo hi : Int) : Int := if lo ≤ x ∧ x ≤ hi then 0 else 3
def mnE (x m : Int) : Int := if x ≤ m then 0 else 5
def shE (x y : Int) : Int := if x = y then 0 else 2
def thE (b : Bool) (e : Int) : Int := cond b 0 e
def ouE (x lo hi : Int) : Bool := ltF x lo || ltF hi x
noncomputable def C1 : Cfg := ⟨noT, at_ [(135, 9), (93, 5), (148, 9), (148, 14), (81, 9)] .bool no_, off_, noL⟩
theorem p135 (x lo hi : Int) : Pure Tryz.prog Hd 135 [i x, i lo, i hi] (i (rgE x lo hi)) := by
  refine pure_run (C := C1) (G := 4) 30 (.br (leF lo x) (.br (leF x hi) (.leaf (i 0)) (.leaf (i 3))) (.br (false) (.leaf (i 0)) (.leaf (i 3)))) .none .none (by decide) hd_len rfl (by kernel_rfl) (by kernel_rfl) ?_
  unfold rgE
  by_cases h1 : lo ≤ x <;> by_cases h2 : x ≤ hi <;> simp [VT.sel, leF_eq, h1, h2]
theorem rg_lt (x lo hi : Int) : (VT.br (ltF x lo) (.br (true) (.leaf (i 3)) (.leaf (i 0))) (.br (ltF hi x) (.leaf (i 3)) (.leaf (i 0)))).sel = some (i (rgE x lo hi)) := by
  unfold rgE
  by_cases h1 : x < lo
  · have : ¬ lo ≤ x := by omega
    simp [VT.sel, ltF_eq, h1, this]
  · by_cases h2 : hi < x
    · have h3 : ¬ x ≤ hi := by omega
      simp [VT.sel, ltF_eq, h1, h2, h3]
    · have h3 : lo ≤ x ∧ x ≤ hi := by omega
      simp [VT.sel, ltF_eq, h1, h2, h3]
theorem p148 (x lo hi : Int) : Pure Tryz.prog Hd 148 [i x, i lo, i hi] (i (rgE x lo hi)) :=
  pure_run (C := C1) (G := 4) 30 _ .none .none (by decide) hd_len rfl (by kernel_rfl) (by kernel_rfl) (rg_lt x lo hi)
theorem p81 (x lo hi : Int) : Pure Tryz.prog Hd 81 [i x, i lo, i hi] (b_ (ouE x lo hi)) := by
  refine pure_run (C := C1) (G := 4) 30 (.br (ltF x lo) (.leaf (b_ true)) (.leaf (b_ (ltF hi x)))) .none .none (by decide) hd_len rfl (by kernel_rfl) (by kernel_rfl) ?_
  unfold ouE
  cases ltF x lo <;> rfl
theorem p93 (b : Bool) (e : Int) : Pure Tryz.prog Hd 93 [b_ b, i e] (i (thE b e)) := by
  refine pure_run (C := C1) (G := 4) 30 (.br b (.leaf (i 0)) (.leaf (i e))) .none .none (by decide) hd_len rfl (by kernel_rfl) (by kernel_rfl) ?_
  unfold thE
  cases b <;> rfl
def s3 : List Value → Option Value
  | [.int .i64 x, .int .i64 lo, .int .i64 hi] => some (i (rgE x lo hi))
  | _ => none
def s81 : List Value → Option Value
  | [.int .i64 x, .int .i64 lo, .int .i64 hi] => some (b_ (ouE x lo hi))
  | _ => none
def s93 : List Value → Option Value
  | [.bool b, .int .i64 e] => some (i (thE b e))
  | _ => none
noncomputable def T0 : Tb := ext (ext (ext (ext noT 135 (pureE s3 [] Hd)) 148 (pureE s3 [] Hd)) 81 (pureE s81 [] Hd)) 93 (pureE s93 [] Hd)
theorem ts0 {G : Nat} : TSound Tryz.prog G T0 := by
  refine (((TSound.none.pure hd_vars fun args v h => ?_).pure hd_vars fun args v h => ?_).pure hd_vars fun args v h => ?_).pure hd_vars fun args v h => ?_
  · unfold s3 at h
    split at h
    · cases h; exact p135 _ _ _
    · cases h
  · unfold s3 at h
    split at h
    · cases h; exact p148 _ _ _
    · cases h
  · unfold s81 at h
    split at h
    · cases h; exact p81 _ _ _
    · cases h
  · unfold s93 at h
    split at h
    · cases h; exact p93 _ _
    · cases h
noncomputable def C2 : Cfg := ⟨T0, at_ [(20, 10)] .bool no_, off_, noL⟩
theorem ouE_rg (x lo hi : Int) : cond (ouE x lo hi) (3 : Int) 0 = rgE x lo hi := by
  unfold ouE rgE
  rw [ltF_eq, ltF_eq]
  by_cases h1 : x < lo
  · rw [decide_eq_true h1, if_neg (by omega)]; rfl
  · by_cases h2 : hi < x
    · rw [decide_eq_false h1, decide_eq_true h2, if_neg (by omega)]; rfl
    · rw [decide_eq_false h1, decide_eq_false h2, if_pos (by omega)]; rfl
theorem p20 (x lo hi : Int) : Pure Tryz.prog Hd 20 [i x, i lo, i hi] (i (rgE x lo hi)) := by
  refine pure_run (C := C2) (G := 4) 30 (.br (ouE x lo hi) (.leaf (i 3)) (.leaf (i 0))) ts0 .none (by decide) hd_len rfl (by kernel_rfl) (by kernel_rfl) ?_
  rw [← ouE_rg]
  cases ouE x lo hi <;> rfl
theorem mn_th (x m : Int) : thE (leF x m) 5 = mnE x m := by
  unfold thE mnE
  rw [leF_eq]
  by_cases h : x ≤ m <;> simp [h]
theorem p106 (x m : Int) : Pure Tryz.prog Hd 106 [i x, i m] (i (mnE x m)) := by
  refine pure_run (C := C2) (G := 4) 30 (.leaf (i (thE (leF x m) 5))) ts0 .none (by decide) hd_len rfl (by kernel_rfl) (by kernel_rfl) ?_
  rw [mn_th]; rfl
theorem sh_th (x y : Int) : thE (eqF x y) 2 = shE x y := by
  unfold thE shE
  rw [eqF_d]
  by_cases h : x = y <;> simp [h]
theorem p98 (x y : Int) : Pure Tryz.prog Hd 98 [i x, i y] (i (shE x y)) := by
  refine pure_run (C := C2) (G := 4) 30 (.leaf (i (thE (eqF x y) 2))) ts0 .none (by decide) hd_len rfl (by kernel_rfl) (by kernel_rfl) ?_
  rw [sh_th]; rfl
theorem p88 (b : Bool) : Pure Tryz.prog Hd 88 [b_ b] (i (thE b 11)) :=
  pure_run (C := C2) (G := 4) 30 (.leaf (i (thE b 11))) ts0 .none (by decide) hd_len rfl (by kernel_rfl) (by kernel_rfl) rfl
def toE (x : Int) : Int := rgE x 0 6400000
def prE (x : Int) : Int := rgE x 0 10000
theorem p108 (x : Int) : Pure Tryz.prog Hd 108 [i x] (i (toE x)) :=
  pure_run (C := C2) (G := 4) 30 (.leaf (i (toE x))) ts0 .none (by decide) hd_len rfl (by kernel_rfl) (by kernel_rfl) rfl
theorem p87 (x : Int) : Pure Tryz.prog Hd 87 [i x] (i (prE x)) :=
  pure_run (C := C2) (G := 4) 30 (.leaf (i (prE x))) ts0 .none (by decide) hd_len rfl (by kernel_rfl) (by kernel_rfl) rfl
def s106 : List Value → Option Value
  | [.int .i64 x, .int .i64 m] => some (i (mnE x m))
  | _ => none
def s98 : List Value → Option Value
  | [.int .i64 x, .int .i64 m] => some (i (shE x m))
  | _ => none
def s88 : List Value → Option Value
  | [.bool b] => some (i (thE b 11))
  | _ => none
def s108 : List Value → Option Value
  | [.int .i64 x] => some (i (toE x))
  | _ => none
def s87 : List Value → Option Value
  | [.int .i64 x] => some (i (prE x))
  | _ => none
noncomputable def T1 : Tb := ext (ext (ext (ext (ext (ext T0 20 (pureE s3 [] Hd)) 106 (pureE s106 [] Hd)) 98 (pureE s98 [] Hd)) 88 (pureE s88 [] Hd)) 108 (pureE s108 [] Hd)) 87 (pureE s87 [] Hd)
theorem ts1 {G : Nat} : TSound Tryz.prog G T1 := by
  refine (((((ts0.pure hd_vars fun args v h => ?_).pure hd_vars fun args v h => ?_).pure hd_vars fun args v h => ?_).pure hd_vars fun args v h => ?_).pure hd_vars fun args v h => ?_).pure hd_vars fun args v h => ?_
  · unfold s3 at h
    split at h
    · cases h; exact p20 _ _ _
    · cases h
  · unfold s106 at h
    split at h
    · cases h; exact p106 _ _
    · cases h
  · unfold s98 at h
    split at h
    · cases h; exact p98 _ _
    · cases h
  · unfold s88 at h
    split at h
    · cases h; exact p88 _
    · cases h
  · unfold s108 at h
    split at h
    · cases h; exact p108 _
    · cases h
  · unfold s87 at h
    split at h
    · cases h; exact p87 _
    · cases h
end Go.Proofs.YtafpmehhdcmllaaGreatDoor.Ways
noncomputable section
namespace Go.Proofs.YtafpmehhdcmllaaGreatDoor.Ways
open Go Go.Ex Go.RowKit
/-- a list of integers -/
def eI (cs : List Value) (j : Nat) : Int := intO cs[0 + j * 1]?
def okI (cs : List Value) (n c : Nat) : Prop := cs.all Ex.flat = true ∧ n ≤ c ∧ n < 9223372036854775808 ∧ ∀ j, j < n → isCellB (.i .i64) cs[0 + j * 1]? = true
def bnd_ (n : Int) (len cap : Nat) : Bool := leF 0 n && (ltF n len && decide (len ≤ cap))
theorem bnd_t {j len cap : Nat} (h : j < len) (hc : len ≤ cap) : bnd_ (j : Int) len cap = true := by
  unfold bnd_
  rw [leF_eq, ltF_eq, decide_eq_true (by omega), decide_eq_true (by omega), decide_eq_true hc]; rfl
theorem wsucc {j : Nat} (h : j < 9223372036854775807) : wrapF .i64 ((j : Int) + 1) = ((j + 1 : Nat) : Int) := by rw [wrapF_in (by omega) (by omega)]; rfl
noncomputable def B77 : Code := bodyL Tryz.f77 2
noncomputable def B80 : Code := bodyL Tryz.f80 2
noncomputable def sp2 : Nat → Nat → Split := at_ [(77, 8), (77, 12), (80, 7), (80, 14)] .bool no_
def sy2 : Nat → Nat → Bool := on_ [(77, 9), (77, 10), (80, 12), (80, 13), (80, 17), (80, 18)]
noncomputable def C3b : Cfg := ⟨T1, sp2, sy2, noL⟩
section
variable (cs : List Value) (t s len cap : Nat) (ex : Bool)
def D4 : List (CO × Bool) := [(.dead, false), (.dead, false), (.dead, false), (.dead, false)]
def r5 : List Nat := [0, 1, 2, 3, 4]
def hpI : List (CO × Bool) := [(.dead, false), (.dead, false), (.dead, false), (.dead, false), (.cells cs t s ex, true)]
theorem hpI_flat {cs : List Value} {t s : Nat} {ex : Bool} (h : cs.all Ex.flat = true) : ∀ o, (o, true) ∈ hpI cs t s ex → FlatO o := by
  intro o ho
  simp [hpI] at ho
  subst ho
  exact fun x hx => List.all_eq_true.1 h x hx
def cB (k : CK) (n : Int) : Bool := isCellB k cs[0 + n.toNat * 1]?
def S77 : Shape Int := ⟨15, fun n => ⟨[(5, sl 4 0 len cap), (6, i len), (7, i n)], hpI cs t s ex⟩, fun j n => match j with
  | 0 => (.exit 0, ⟨[], hpI cs t s ex⟩)
  | _ => (.ret, ⟨[(2, i (eI cs n.toNat))], hpI cs t s ex⟩)⟩
def st77 (n : Int) : SS Int := .br (ltF n len) (askS (bnd_ n len cap) <| askS (cB cs (.i .i64) n) <| .br (!eqF (eI cs n.toNat) 0) (.done 5 [0, 1, 2, 3, 4] 1) (.next 5 [0, 1, 2, 3, 4] (wrapF .i64 (n + 1)))) (.done 5 [0, 1, 2, 3, 4] 0)
def S80 : Shape Int := ⟨19, fun n => ⟨[(0, sl 4 0 len cap), (3, i n)], hpI cs t s ex⟩, fun j n => match j with
  | 0 => (.exit 0, ⟨[], hpI cs t s ex⟩)
  | _ => (.ret, ⟨[(2, i (eI cs n.toNat))], hpI cs t s ex⟩)⟩
def st80 (n : Int) : SS Int := .br (ltF n len) (askS (bnd_ n len cap) <| askS (cB cs (.i .i64) n) <| .br (!eqF (eI cs n.toNat) 0) (askS (bnd_ n len cap) <| askS (cB cs (.i .i64) n) <| .done 5 [0, 1, 2, 3, 4] 1) (.next 5 [0, 1, 2, 3, 4] (wrapF .i64 (n + 1)))) (.done 5 [0, 1, 2, 3, 4] 0)
end
section
variable {cs : List Value} {t s len cap : Nat} {ex : Bool}
theorem L77 (h : cs.all Ex.flat = true) : Loop1 Tryz.prog 5 77 B77 (S77 cs t s len cap ex) 5 (st77 cs len cap) (fun _ => True) :=
  .mk' (C := fun _ => C3b) (n := 40) (fun _ _ => ts1) (fun _ _ => .none) (fun s ro _ => by kernel_rfl) (fun s ro _ => by kernel_rfl) (fun s => by kernel_rfl) (fun _ _ _ _ => trivial) (fun _ _ => hpI_flat h)
    (fun s j _ _ => by cases j <;> exact ⟨hpI_flat h, fun h => by cases h⟩)
theorem L80 (h : cs.all Ex.flat = true) : Loop1 Tryz.prog 5 80 B80 (S80 cs t s len cap ex) 5 (st80 cs len cap) (fun _ => True) :=
  .mk' (C := fun _ => C3b) (n := 40) (fun _ _ => ts1) (fun _ _ => .none) (fun s ro _ => by kernel_rfl) (fun s ro _ => by kernel_rfl) (fun s => by kernel_rfl) (fun _ _ _ _ => trivial) (fun _ _ => hpI_flat h)
    (fun s j _ _ => by cases j <;> exact ⟨hpI_flat h, fun h => by cases h⟩)
theorem run77 (h : okI cs len cap) : ∃ r, runS (st77 cs len cap) (len + 1) 0 = some r ∧ ((firstF (eI cs) len 0 = 0 ∧ r = (0, (len : Int))) ∨ (firstF (eI cs) len 0 ≠ 0 ∧ ∃ j : Nat, j < len ∧ r = (1, (j : Int)) ∧ eI cs j = firstF (eI cs) len 0 ∧ ∀ k, k < j → eI cs k = 0)) := by
  obtain ⟨_, hc, hl, hk⟩ := h
  refine run_first (st := fun j => ((j : Nat) : Int)) (e := eI cs) (a := 0) (b := fun _ => 1) len (fun j hj he => ?_) (fun j hj he => ?_) ?_
  · unfold st77
    rw [br_t (by rw [ltF_eq]; simpa using hj), askS_sel (bnd_t hj hc), askS_sel (by exact hk j hj), br_f (by rw [eqF_d]; simp [he]), wsucc (by omega)]; rfl
  · unfold st77
    rw [br_t (by rw [ltF_eq]; simpa using hj), askS_sel (bnd_t hj hc), askS_sel (by exact hk j hj), br_t (by rw [eqF_d]; simp [he])]; rfl
  · unfold st77
    rw [br_f (by rw [ltF_eq]; simp)]; rfl
theorem run80 (h : okI cs len cap) : ∃ r, runS (st80 cs len cap) (len + 1) 0 = some r ∧ ((firstF (eI cs) len 0 = 0 ∧ r = (0, (len : Int))) ∨ (firstF (eI cs) len 0 ≠ 0 ∧ ∃ j : Nat, j < len ∧ r = (1, (j : Int)) ∧ eI cs j = firstF (eI cs) len 0 ∧ ∀ k, k < j → eI cs k = 0)) := by
  obtain ⟨_, hc, hl, hk⟩ := h
  refine run_first (st := fun j => ((j : Nat) : Int)) (e := eI cs) (a := 0) (b := fun _ => 1) len (fun j hj he => ?_) (fun j hj he => ?_) ?_
  · unfold st80
    rw [br_t (by rw [ltF_eq]; simpa using hj), askS_sel (bnd_t hj hc), askS_sel (by exact hk j hj), br_f (by rw [eqF_d]; simp [he]), wsucc (by omega)]; rfl
  · unfold st80
    rw [br_t (by rw [ltF_eq]; simpa using hj), askS_sel (bnd_t hj hc), askS_sel (by exact hk j hj), br_t (by rw [eqF_d]; simp [he]), askS_sel (bnd_t hj hc), askS_sel (by exact hk j hj)]; rfl
  · unfold st80
    rw [br_f (by rw [ltF_eq]; simp)]; rfl
end
def sp77 : ESpec := fun al css => match al, css with
  | [.slice (some ⟨4, 0, none⟩) n c], [cs] => some (okI cs n c, i (firstF (eI cs) n 0))
  | _, _ => none
section
variable (cs : List Value) (t s len cap : Nat) (ex : Bool)
noncomputable def K77 (r : Nat × Int) : Cfg := ⟨T1, sp2, sy2, loopE noL 77 2 15 5 B77 ((S77 cs t s len cap ex).st 0).live ((S77 cs t s len cap ex).st 0).hp (finO (S77 cs t s len cap ex) r [0, 1])⟩
noncomputable def K80 (r : Nat × Int) : Cfg := ⟨T1, sp2, sy2, loopE noL 80 2 19 5 B80 ((S80 cs t s len cap ex).st 0).live ((S80 cs t s len cap ex).st 0).hp (finO (S80 cs t s len cap ex) r [0, 1])⟩
def vt1 (r : Nat × Int) : VT := .br (Nat.beq r.1 0) (.leaf (i 0)) (.br (Nat.beq r.1 1) (.leaf (i (eI cs r.2.toNat))) .fail)
theorem v77 (r : Nat × Int) : (execO Tryz.prog 5 (K77 cs t s len cap ex r) 40 (.call 77 ⟨[sl 4 0 len cap]⟩ (heapL (deads ++ [.cells cs t s ex])))).vals = vt1 cs r := by kernel_rfl
theorem x77 (r : Nat × Int) : execO Tryz.prog 5 (K77 cs t s len cap ex r) 40 (.call 77 ⟨[sl 4 0 len cap]⟩ (heapL (deads ++ [.cells cs t s ex]))) = (execO Tryz.prog 5 (K77 cs t s len cap ex r) 40 (.call 77 ⟨[sl 4 0 len cap]⟩ (heapL (deads ++ [.cells cs t s ex])))).fix := by kernel_rfl
theorem v80 (r : Nat × Int) : (execO Tryz.prog 5 (K80 cs t s len cap ex r) 40 (.call 80 ⟨[sl 4 0 len cap]⟩ (heapL (deads ++ [.cells cs t s ex])))).vals = vt1 cs r := by kernel_rfl
theorem x80 (r : Nat × Int) : execO Tryz.prog 5 (K80 cs t s len cap ex r) 40 (.call 80 ⟨[sl 4 0 len cap]⟩ (heapL (deads ++ [.cells cs t s ex]))) = (execO Tryz.prog 5 (K80 cs t s len cap ex r) 40 (.call 80 ⟨[sl 4 0 len cap]⟩ (heapL (deads ++ [.cells cs t s ex])))).fix := by kernel_rfl
end
theorem vt1_sel {cs : List Value} {len : Nat} {r : Nat × Int} (h : (firstF (eI cs) len 0 = 0 ∧ r = (0, (len : Int))) ∨ (firstF (eI cs) len 0 ≠ 0 ∧ ∃ j : Nat, j < len ∧ r = (1, (j : Int)) ∧ eI cs j = firstF (eI cs) len 0 ∧ ∀ k, k < j → eI cs k = 0)) : (vt1 cs r).sel = some (i (firstF (eI cs) len 0)) := by
  rcases h with ⟨h1, rfl⟩ | ⟨_, j, _, rfl, h2, _⟩
  · rw [h1]; rfl
  · rw [← h2]; rfl
theorem c77 : ∀ al css os p v, sp77 al css = some (p, v) → p → Blks css os → (∀ cs ∈ css, cs.all Ex.flat = true) ∧ clean 6 v = true ∧ ∃ H', Sound Tryz.prog (gl + css.length) (.call 77 ⟨al⟩ (heapL (deads ++ os))) (.val v H') := by
  intro al css os p v hs hp hb
  unfold sp77 at hs
  split at hs
  case h_2 => cases hs
  rename_i n c cs
  cases hs
  obtain ⟨t, s, ex, rfl⟩ := blks1 hb
  refine ⟨by simpa using hp.1, rfl, ?_⟩
  obtain ⟨r, hr, hv⟩ := run77 hp
  have hL := (L77 (t := t) (s := s) (len := n) (cap := c) (ex := ex) hp.1).table (id := 2) .none (by decide) trivial hr (by kernel_rfl) [0, 1]
  obtain ⟨H', h'⟩ := Out.vals_sel (x77 cs t s n c ex r) (v := i (firstF (eI cs) n 0)) (by rw [v77]; exact vt1_sel hv)
  exact ⟨H', execO_sound (C := K77 cs t s n c ex r) ts1 hL 40 _ _ h'⟩
theorem c80 : ∀ al css os p v, sp77 al css = some (p, v) → p → Blks css os → (∀ cs ∈ css, cs.all Ex.flat = true) ∧ clean 6 v = true ∧ ∃ H', Sound Tryz.prog (gl + css.length) (.call 80 ⟨al⟩ (heapL (deads ++ os))) (.val v H') := by
  intro al css os p v hs hp hb
  unfold sp77 at hs
  split at hs
  case h_2 => cases hs
  rename_i n c cs
  cases hs
  obtain ⟨t, s, ex, rfl⟩ := blks1 hb
  refine ⟨by simpa using hp.1, rfl, ?_⟩
  obtain ⟨r, hr, hv⟩ := run80 hp
  have hL := (L80 (t := t) (s := s) (len := n) (cap := c) (ex := ex) hp.1).table (id := 2) .none (by decide) trivial hr (by kernel_rfl) [0, 1]
  obtain ⟨H', h'⟩ := Out.vals_sel (x80 cs t s n c ex r) (v := i (firstF (eI cs) n 0)) (by rw [v80]; exact vt1_sel hv)
  exact ⟨H', execO_sound (C := K80 cs t s n c ex r) ts1 hL 40 _ _ h'⟩
noncomputable def T2 : Tb := ext (ext T1 77 (autoE sp77 [] (heapL deads))) 80 (autoE sp77 [] (heapL deads))
theorem ts2 {G : Nat} : TSound Tryz.prog G T2 := (ts1.auto c77).auto c80
/-! ### small lists of errors -/
def fst2 (a b : Int) : Int := firstF (eI [i a, i b]) 2 0
def fst3 (a b c : Int) : Int := firstF (eI [i a, i b, i c]) 3 0
def fst4 (a b c d : Int) : Int := firstF (eI [i a, i b, i c, i d]) 4 0
theorem fst2_eq (a b : Int) : fst2 a b = if a ≠ 0 then a else if b ≠ 0 then b else 0 := rfl
theorem fst3_eq (a b c : Int) : fst3 a b c = if a ≠ 0 then a else if b ≠ 0 then b else if c ≠ 0 then c else 0 := rfl
theorem fst4_eq (a b c d : Int) : fst4 a b c d = if a ≠ 0 then a else if b ≠ 0 then b else if c ≠ 0 then c else if d ≠ 0 then d else 0 := rfl
theorem okI2 (a b : Int) : okI [i a, i b] 2 2 := ⟨rfl, by decide, by decide, fun j hj => by
  match j, hj with
  | 0, _ => rfl
  | 1, _ => rfl⟩
theorem okI3 (a b c : Int) : okI [i a, i b, i c] 3 3 := ⟨rfl, by decide, by decide, fun j hj => by
  match j, hj with
  | 0, _ => rfl
  | 1, _ => rfl
  | 2, _ => rfl⟩
theorem okI4 (a b c d : Int) : okI [i a, i b, i c, i d] 4 4 := ⟨rfl, by decide, by decide, fun j hj => by
  match j, hj with
  | 0, _ => rfl
  | 1, _ => rfl
  | 2, _ => rfl
  | 3, _ => rfl⟩
end Go.Proofs.YtafpmehhdcmllaaGreatDoor.Ways
noncomputable section
namespace Go.Proofs.YtafpmehhdcmllaaGreatDoor.Ways
open Go Go.Ex Go.RowKit
noncomputable def Cl : Cfg := ⟨noT, at_ [(200, 6)] .bool (at_ [(200, 8)] (.ints []) no_), off_, noL⟩
theorem p200 (x y : Int) : Pure Tryz.prog Hd 200 [i x, i y] (b_ (ltF x y)) := by
  refine pure_run (C := Cl) (G := 4) 30 (.br (!eqF x x) .fail (.leaf (b_ (ltF x y)))) .none .none (by decide) hd_len rfl (by kernel_rfl) (by kernel_rfl) ?_
  simp [VT.sel, eqF_d]
def s200 : List Value → Option Value
  | [.int .i64 x, .int .i64 m] => some (b_ (ltF x m))
  | _ => none
noncomputable def T3 : Tb := ext T2 200 (pureE s200 [] Hd)
theorem ts3 {G : Nat} : TSound Tryz.prog G T3 := by
  refine ts2.pure hd_vars fun args v h => ?_
  unfold s200 at h
  split at h
  · cases h; exact p200 _ _
  · cases h
end Go.Proofs.YtafpmehhdcmllaaGreatDoor.Ways
noncomputable section
namespace Go.Proofs.YtafpmehhdcmllaaGreatDoor.Ways
open Go Go.Ex Go.RowKit
def oA (a b c : Int) : Int := if b < a then (if c < a then (if c < b then c else b) else b) else (if c < b then (if c < a then c else a) else a)
def oB (a b c : Int) : Int := if b < a then (if c < a then (if c < b then b else c) else a) else (if c < b then (if c < a then a else c) else b)
def oC (a b c : Int) : Int := if b < a then (if c < a then a else c) else (if c < b then b else c)
noncomputable def Co : Cfg := ⟨T3, at_ [(194, 30)] .bool no_, off_, noL⟩
theorem p89 (a b c : Int) : Pure Tryz.prog Hd 89 [ag [i a, i b, i c]] (ag [i (oA a b c), i (oB a b c), i (oC a b c)]) := by
  refine pure_run (C := Co) (G := 4) 60 (.br (ltF b a) (.br (false) .fail (.br (ltF c a) (.br (ltF c b) (.br (false) .fail (.leaf (ag [i (c), i (b), i (a)]))) (.leaf (ag [i (b), i (c), i (a)]))) (.leaf (ag [i (b), i (a), i (c)])))) (.br (ltF c b) (.br (ltF c a) (.br (false) .fail (.leaf (ag [i (c), i (a), i (b)]))) (.leaf (ag [i (a), i (c), i (b)]))) (.leaf (ag [i (a), i (b), i (c)])))) ts3 .none (by decide) hd_len rfl (by kernel_rfl) (by kernel_rfl) ?_
  unfold oA oB oC
  rw [ltF_eq, ltF_eq, ltF_eq]
  by_cases h1 : b < a <;> by_cases h2 : c < a <;> by_cases h3 : c < b <;> simp [VT.sel, h1, h2, h3]
def mxP (w : Int) : Int := if w < 0 then 0 else w
def mnP (w : Int) : Int := if 0 < w then 0 else w
def mxR (w : Int) : Int := if 0 < w then w else 0
def rvP (x y z o e : Int) : Int := wrapF .i64 (wrapF .i64 (wrapF .i64 (y * o) + wrapF .i64 (x * mxP (wrapF .i64 (e - o)))) + wrapF .i64 (z * mnP (wrapF .i64 (e - o))))
def rvR (x y z o e : Int) : Int := wrapF .i64 (wrapF .i64 (wrapF .i64 (y * o) + wrapF .i64 (x * mxR (wrapF .i64 (e - o)))) - wrapF .i64 (z * mxR (wrapF .i64 (o - e))))
theorem p79 (a b c d e : Int) : Pure Tryz.prog Hd 79 [ag [i a, i b, i c], i d, i e] (i (rvP a b c d e)) :=
  pure_run (C := Co) (G := 4) 60 (.leaf (i (rvP a b c d e))) ts3 .none (by decide) hd_len rfl (by kernel_rfl) (by kernel_rfl) rfl
theorem p21 (a b c d e : Int) : Pure Tryz.prog Hd 21 [ag [i a, i b, i c], i d, i e] (i (rvR a b c d e)) :=
  pure_run (C := Co) (G := 4) 60 (.leaf (i (rvR a b c d e))) ts3 .none (by decide) hd_len rfl (by kernel_rfl) (by kernel_rfl) rfl
def baE (c d e : Int) : Int := wrapF .i64 (wrapF .i64 (c + d) + e)
def enE (c e : Int) : Int := wrapF .i64 (e + c)
def dvE (a c e : Int) : Int := wrapF .i64 (wrapF .i64 (e + c) - a)
theorem p117 (a b c d e : Int) : Pure Tryz.prog Hd 117 [ag [i a, i b, i c, i d, i e]] (ag [i a, i b, i c, i d, i e]) :=
  pure_run (C := Co) (G := 4) 60 (.leaf (ag [i a, i b, i c, i d, i e])) ts3 .none (by decide) hd_len rfl (by kernel_rfl) (by kernel_rfl) rfl
theorem p118 (a b c d e : Int) : Pure Tryz.prog Hd 118 [ag [i a, i b, i c, i d, i e]] (ag [i a, i (baE c d e), i c, i d, i e]) :=
  pure_run (C := Co) (G := 4) 60 (.leaf (ag [i a, i (baE c d e), i c, i d, i e])) ts3 .none (by decide) hd_len rfl (by kernel_rfl) (by kernel_rfl) rfl
theorem p111 (a b c d e x y z : Int) : Pure Tryz.prog Hd 111 [ag [i a, i b, i c, i d, i e], ag [i x, i y, i z]] (ag [i (dvE a c e), i (rvP x y z a (enE c e))]) :=
  pure_run (C := Co) (G := 4) 60 (.leaf (ag [i (dvE a c e), i (rvP x y z a (enE c e))])) ts3 .none (by decide) hd_len rfl (by kernel_rfl) (by kernel_rfl) rfl
theorem p52 (a b c d e x y z : Int) : Pure Tryz.prog Hd 52 [ag [i a, i b, i c, i d, i e], ag [i x, i y, i z]] (i (rvR x y z a (enE c e))) :=
  pure_run (C := Co) (G := 4) 60 (.leaf (i (rvR x y z a (enE c e)))) ts3 .none (by decide) hd_len rfl (by kernel_rfl) (by kernel_rfl) rfl
theorem p116 (a b c d e : Int) : Pure Tryz.prog Hd 116 [ag [i a, i b, i c, i d, i e]] (i (dvE a c e)) :=
  pure_run (C := Co) (G := 4) 60 (.leaf (i (dvE a c e))) ts3 .none (by decide) hd_len rfl (by kernel_rfl) (by kernel_rfl) rfl
def s89 : List Value → Option Value
  | [.agg ⟨[.int .i64 a, .int .i64 b, .int .i64 c]⟩] => some (ag [i (oA a b c), i (oB a b c), i (oC a b c)])
  | _ => none
def s79 : List Value → Option Value
  | [.agg ⟨[.int .i64 a, .int .i64 b, .int .i64 c]⟩, .int .i64 d, .int .i64 e] => some (i (rvP a b c d e))
  | _ => none
def s21 : List Value → Option Value
  | [.agg ⟨[.int .i64 a, .int .i64 b, .int .i64 c]⟩, .int .i64 d, .int .i64 e] => some (i (rvR a b c d e))
  | _ => none
def s117 : List Value → Option Value
  | [.agg ⟨[.int .i64 a, .int .i64 b, .int .i64 c, .int .i64 d, .int .i64 e]⟩] => some (ag [i a, i b, i c, i d, i e])
  | _ => none
def s118 : List Value → Option Value
  | [.agg ⟨[.int .i64 a, .int .i64 _, .int .i64 c, .int .i64 d, .int .i64 e]⟩] => some (ag [i a, i (baE c d e), i c, i d, i e])
  | _ => none
def s111 : List Value → Option Value
  | [.agg ⟨[.int .i64 a, .int .i64 _, .int .i64 c, .int .i64 _, .int .i64 e]⟩, .agg ⟨[.int .i64 x, .int .i64 y, .int .i64 z]⟩] => some (ag [i (dvE a c e), i (rvP x y z a (enE c e))])
  | _ => none
def s52 : List Value → Option Value
  | [.agg ⟨[.int .i64 a, .int .i64 _, .int .i64 c, .int .i64 _, .int .i64 e]⟩, .agg ⟨[.int .i64 x, .int .i64 y, .int .i64 z]⟩] => some (i (rvR x y z a (enE c e)))
  | _ => none
def s116 : List Value → Option Value
  | [.agg ⟨[.int .i64 a, .int .i64 _, .int .i64 c, .int .i64 _, .int .i64 e]⟩] => some (i (dvE a c e))
  | _ => none
noncomputable def T4 : Tb := ext (ext (ext (ext (ext (ext (ext (ext T3 89 (pureE s89 [] Hd)) 79 (pureE s79 [] Hd)) 21 (pureE s21 [] Hd)) 117 (pureE s117 [] Hd)) 118 (pureE s118 [] Hd)) 111 (pureE s111 [] Hd)) 52 (pureE s52 [] Hd)) 116 (pureE s116 [] Hd)
theorem ts4 {G : Nat} : TSound Tryz.prog G T4 := by
  refine (((((((ts3.pure hd_vars fun args v h => ?_).pure hd_vars fun args v h => ?_).pure hd_vars fun args v h => ?_).pure hd_vars fun args v h => ?_).pure hd_vars fun args v h => ?_).pure hd_vars fun args v h => ?_).pure hd_vars fun args v h => ?_).pure hd_vars fun args v h => ?_
  · unfold s89 at h
    split at h
    · cases h; exact p89 _ _ _
    · cases h
  · unfold s79 at h
    split at h
    · cases h; exact p79 _ _ _ _ _
    · cases h
  · unfold s21 at h
    split at h
    · cases h; exact p21 _ _ _ _ _
    · cases h
  · unfold s117 at h
    split at h
    · cases h; exact p117 _ _ _ _ _
    · cases h
  · unfold s118 at h
    split at h
    · cases h; exact p118 _ _ _ _ _
    · cases h
  · unfold s111 at h
    split at h
    · cases h; exact p111 _ _ _ _ _ _ _ _
    · cases h
  · unfold s52 at h
    split at h
    · cases h; exact p52 _ _ _ _ _ _ _ _
    · cases h
  · unfold s116 at h
    split at h
    · cases h; exact p116 _ _ _ _ _
    · cases h
end Go.Proofs.YtafpmehhdcmllaaGreatDoor.Ways
