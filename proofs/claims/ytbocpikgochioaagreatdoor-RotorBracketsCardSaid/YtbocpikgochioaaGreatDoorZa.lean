import Derived.Test.YtbocpikgochioaaGreatDoorEngMem
import Derived.Test.YtbocpikgochioaaGreatDoorFz
import Derived.WalkKit
import Derived.IntWalk
namespace Go.Proofs.YtbocpikgochioaaGreatDoor.Ways
open Go Go.Ex
def i (n : Int) : Value := .int .i64 n
noncomputable def Hd : CH := (((Hp.nil.push .dead).push .dead).push .dead).push .dead
theorem hd_dead : AllDead Hd := by
  intro b o h
  have hb : b < 4 := Hp.lt h
  match b, hb with
  | 0, _ => have : o = .dead := Option.some.inj (h.symm.trans (rfl : Hd[0]? = some .dead)); rw [this]; rfl
  | 1, _ => have : o = .dead := Option.some.inj (h.symm.trans (rfl : Hd[1]? = some .dead)); rw [this]; rfl
  | 2, _ => have : o = .dead := Option.some.inj (h.symm.trans (rfl : Hd[2]? = some .dead)); rw [this]; rfl
  | 3, _ => have : o = .dead := Option.some.inj (h.symm.trans (rfl : Hd[3]? = some .dead)); rw [this]; rfl
theorem hd_len : Hd.length = 4 := rfl
theorem hd_vars : Vars Hd [] := .of_dead hd_len hd_dead

/-- check.Range -/
def rangeE (n lo hi : Int) : Int := if n < lo ∨ hi < n then 3 else 0
def at_ (l : List (Nat × Nat)) (s : Split) (rest : Nat → Nat → Split) (f d : Nat) : Split := cond (l.any fun x => Nat.beq x.1 f && Nat.beq x.2 d) s (rest f d)
def no_ (_ _ : Nat) : Split := .no
def off_ (_ _ : Nat) : Bool := false
def C0 : Cfg := ⟨noT, at_ [(Fn.check_Range, 9), (Fn.check_Range, 13)] .bool no_, off_, noL⟩
theorem range_pure (n lo hi : Int) : Pure Tryz.prog Hd Fn.check_Range [i n, i lo, i hi] (i (rangeE n lo hi)) := by
  refine pure_run (C := C0) (G := 4) 20 (.br (ltF n lo) (.leaf (i 3)) (.br (ltF hi n) (.leaf (i 3)) (.leaf (i 0)))) .none .none (by decide) hd_len rfl (by kernel_rfl) (by kernel_rfl) ?_
  unfold rangeE
  by_cases h1 : n < lo <;> by_cases h2 : hi < n <;> simp [VT.sel, ltF_eq, h1, h2]
def ag (l : List Value) : Value := .agg ⟨l⟩
def tp (l : List Value) : Value := .tuple ⟨l⟩
def b_ (b : Bool) : Value := .bool b
/-- the marks of the ways -/
def sp_ : Nat → Nat → Split := at_ [(Fn.check_Range, 9), (Fn.check_Range, 13), (Fn.ref01_CheckRange, 9), (Fn.ref01_CheckRange, 13), (Fn.check_First, 12), (Fn.ref01_First, 14), (Fn.law03_pair, 11), (Fn.law03_pair, 14), (Fn.law03_pair, 18), (Fn.law03_pair, 22), (Fn.law03_pair, 26), (Fn.law03_number, 11), (Fn.law03_number, 14), (Fn.law03_number, 17), (Fn.law03_number, 21), (Fn.law03_number, 25)] .bool (at_ [(Fn.rotor_Pair_turned, 9), (Fn.ref03_Turn, 10)] (.ints [0, 1, 2]) no_)
def powers : List Value := [i 1, i 0, i 0, i 1, i (-1), i (-1)]
noncomputable def Hg : CH := (((Hp.nil.push (.cells powers 180 1 true)).push .dead).push .dead).push .dead
theorem hg_len : Hg.length = 4 := rfl
theorem hg_get {b : Nat} {o : CO} (h : Hg[b]? = some o) (ha : o.alive = true) : b = 0 ∧ o = .cells powers 180 1 true := by
  have hb : b < 4 := Hp.lt h
  match b, hb with
  | 0, _ => exact ⟨rfl, Option.some.inj (h.symm.trans (rfl : Hg[0]? = some (.cells powers 180 1 true)))⟩
  | 1, _ => have : o = .dead := Option.some.inj (h.symm.trans (rfl : Hg[1]? = some .dead)); rw [this] at ha; cases ha
  | 2, _ => have : o = .dead := Option.some.inj (h.symm.trans (rfl : Hg[2]? = some .dead)); rw [this] at ha; cases ha
  | 3, _ => have : o = .dead := Option.some.inj (h.symm.trans (rfl : Hg[3]? = some .dead)); rw [this] at ha; cases ha
theorem hg_vars : Vars Hg [0] := ⟨hg_len, fun b o h ha => by rw [(hg_get h ha).1]; simp, fun b o h ha => ⟨powers, 180, 1, (hg_get h ha).2, rfl⟩⟩

def numE (n : Int) : Int := rangeE n (-999999999) 999999999
def firstE (x y : Int) : Int := if x = 0 then y else x
def pairE (a b : Int) : Int := firstE (numE a) (numE b)
def rangeS : List Value → Option Value
  | [.int .i64 n, .int .i64 lo, .int .i64 hi] => some (i (rangeE n lo hi))
  | _ => none
def numS : List Value → Option Value
  | [.int .i64 n] => some (i (numE n))
  | _ => none
def pairS : List Value → Option Value
  | [.agg ⟨[.int .i64 a, .int .i64 b]⟩] => some (i (pairE a b))
  | _ => none
noncomputable def T1 : Tb := ext (ext noT Fn.check_Range (pureE rangeS [] Hd)) Fn.ref01_CheckRange (pureE rangeS [] Hd)
noncomputable def T2 : Tb := ext (ext (ext T1 Fn.rotor_checkNumber (pureE numS [] Hd)) Fn.rotor_checkPair (pureE pairS [] Hd)) Fn.ref03_CheckPair (pureE pairS [] Hd)
theorem wrapF_in {n : Int} (h1 : -9223372036854775808 ≤ n) (h2 : n ≤ 9223372036854775807) : wrapF .i64 n = n := by
  rw [wrapF_eq]; exact IntWalk.i64_in n ⟨h1, h2⟩
theorem eqF_d (a b : Int) : eqF a b = decide (a = b) := by
  rw [eqF_eq, Bool.eq_iff_iff]; simp
theorem ts1 {G : Nat} : TSound Tryz.prog G T1 := by
  refine ((TSound.none.pure hd_vars fun args v h => ?_).pure hd_vars fun args v h => ?_)
  · unfold rangeS at h
    split at h
    · cases h; exact range_pure _ _ _
    · cases h
  · unfold rangeS at h
    split at h
    · cases h
      rename_i n lo hi
      refine pure_run (C := ⟨noT, sp_, off_, noL⟩) (G := 4) 20 (.br (ltF n lo) (.leaf (i 3)) (.br (ltF hi n) (.leaf (i 3)) (.leaf (i 0)))) .none .none (by decide) hd_len rfl (by kernel_rfl) (by kernel_rfl) ?_
      unfold rangeE
      by_cases h1 : n < lo <;> by_cases h2 : hi < n <;> simp [VT.sel, ltF_eq, h1, h2]
    · cases h
noncomputable def C1 : Cfg := ⟨T1, sp_, off_, noL⟩
theorem num_pure (n : Int) : Pure Tryz.prog Hd Fn.rotor_checkNumber [i n] (i (numE n)) :=
  pure_run (C := C1) (G := 4) 20 (.leaf (i (rangeE n (-999999999) 999999999))) ts1 .none (by decide) hd_len rfl (by kernel_rfl) (by kernel_rfl) rfl
def ways2 (x y : Int) (v : Int → Value) : VT := .br (!eqF x 0) (.leaf (v x)) (.br (!eqF y 0) (.leaf (v y)) (.leaf (v 0)))
theorem ways2_sel (x y : Int) (v : Int → Value) : (ways2 x y v).sel = some (v (firstE x y)) := by
  unfold ways2 firstE
  by_cases h1 : x = 0 <;> by_cases h2 : y = 0 <;> simp [VT.sel, eqF_d, h1, h2]
theorem pair_pure (a b : Int) : Pure Tryz.prog Hd Fn.rotor_checkPair [ag [i a, i b]] (i (pairE a b)) :=
  pure_run (C := C1) (G := 4) 30 (ways2 (rangeE a (-999999999) 999999999) (rangeE b (-999999999) 999999999) i) ts1 .none (by decide) hd_len rfl (by kernel_rfl) (by kernel_rfl) (ways2_sel _ _ _)
theorem rpair_pure (a b : Int) : Pure Tryz.prog Hd Fn.ref03_CheckPair [ag [i a, i b]] (i (pairE a b)) :=
  pure_run (C := C1) (G := 4) 30 (ways2 (rangeE a (-999999999) 999999999) (rangeE b (-999999999) 999999999) i) ts1 .none (by decide) hd_len rfl (by kernel_rfl) (by kernel_rfl) (ways2_sel _ _ _)
theorem ts2 {G : Nat} : TSound Tryz.prog G T2 := by
  refine (((ts1.pure hd_vars fun args v h => ?_).pure hd_vars fun args v h => ?_).pure hd_vars fun args v h => ?_)
  · unfold numS at h
    split at h
    · cases h; exact num_pure _
    · cases h
  · unfold pairS at h
    split at h
    · cases h; exact pair_pure _ _
    · cases h
  · unfold pairS at h
    split at h
    · cases h; exact rpair_pure _ _
    · cases h

/-! ### products -/
def tAE (a b c d : Int) : Int := wrapF .i64 (wrapF .i64 (a * c) - wrapF .i64 (b * d))
def tBE (a b c d : Int) : Int := wrapF .i64 (wrapF .i64 (wrapF .i64 (a * d) + wrapF .i64 (b * c)) - wrapF .i64 (b * d))
def tmV (a b c d : Int) : Value := ag [i (tAE a b c d), i (tBE a b c d)]
def timesS : List Value → Option Value
  | [.agg ⟨[.int .i64 a, .int .i64 b]⟩, .agg ⟨[.int .i64 c, .int .i64 d]⟩] => some (tmV a b c d)
  | _ => none
noncomputable def C2 : Cfg := ⟨T2, sp_, off_, noL⟩
noncomputable def T3 : Tb := ext (ext T2 Fn.rotor_Pair_times (pureE timesS [] Hd)) Fn.ref03_Times (pureE timesS [] Hd)
theorem times_pure (a b c d : Int) : Pure Tryz.prog Hd Fn.rotor_Pair_times [ag [i a, i b], ag [i c, i d]] (tmV a b c d) :=
  pure_run (C := C2) (G := 4) 30 (.leaf (tmV a b c d)) ts2 .none (by decide) hd_len rfl (by kernel_rfl) (by kernel_rfl) rfl
theorem rtimes_pure (a b c d : Int) : Pure Tryz.prog Hd Fn.ref03_Times [ag [i a, i b], ag [i c, i d]] (tmV a b c d) :=
  pure_run (C := C2) (G := 4) 30 (.leaf (tmV a b c d)) ts2 .none (by decide) hd_len rfl (by kernel_rfl) (by kernel_rfl) rfl
theorem ts3 {G : Nat} : TSound Tryz.prog G T3 := by
  refine ((ts2.pure hd_vars fun args v h => ?_).pure hd_vars fun args v h => ?_)
  · unfold timesS at h
    split at h
    · cases h; exact times_pure _ _ _ _
    · cases h
  · unfold timesS at h
    split at h
    · cases h; exact rtimes_pure _ _ _ _
    · cases h
noncomputable def C3 : Cfg := ⟨T3, sp_, off_, noL⟩

/-! ### turns -/
def thirdsE (n : Int) : Int := (wrapF .i64 (n.tmod 3 + 3)).tmod 3
theorem thirds_cases (n : Int) : thirdsE n = 0 ∨ thirdsE n = 1 ∨ thirdsE n = 2 := by
  have h1 := Int.tmod_lt_of_pos n (by decide : (0 : Int) < 3)
  have h2 := Int.lt_tmod_of_pos n (by decide : (0 : Int) < 3)
  unfold thirdsE
  rw [wrapF_in (by omega) (by omega), Int.tmod_eq_emod_of_nonneg (by omega)]
  omega
def w3 (k : Int) (v : Value) (r1 r2 : VT) : VT := .br (decide (k = 0)) (.leaf v) (.br (decide (k = 1)) r1 (.br (decide (k = 2)) r2 .fail))
def by3E (n x y z : Int) : Int := if thirdsE n = 0 then x else if thirdsE n = 1 then y else z
def turnAE (a b n : Int) : Int := by3E n (tAE a b 1 0) (tAE a b 0 1) (tAE a b (-1) (-1))
def turnBE (a b n : Int) : Int := by3E n (tBE a b 1 0) (tBE a b 0 1) (tBE a b (-1) (-1))
def turnedV (a b n : Int) : Value := ag [i (turnAE a b n), i (turnBE a b n)]
theorem turned_pure (a b n : Int) : Pure Tryz.prog Hg Fn.rotor_Pair_turned [ag [i a, i b], i n] (turnedV a b n) := by
  refine pure_run (C := C3) (G := 4) 30 (w3 ((wrapF .i64 (n.tmod 3 + 3)).tmod 3) (tmV a b 1 0) (.leaf (tmV a b 0 1)) (.leaf (tmV a b (-1) (-1)))) ts3 .none (by decide) hg_len rfl (by kernel_rfl) (by kernel_rfl) ?_
  show (w3 (thirdsE n) _ _ _).sel = _
  unfold turnedV w3 turnAE turnBE by3E
  rcases thirds_cases n with h | h | h <;> simp [VT.sel, h, tmV]
def rA2 (a b : Int) : Int := tAE (tAE a b 0 1) (tBE a b 0 1) 0 1
def rB2 (a b : Int) : Int := tBE (tAE a b 0 1) (tBE a b 0 1) 0 1
def rturnAE (a b n : Int) : Int := by3E n a (tAE a b 0 1) (rA2 a b)
def rturnBE (a b n : Int) : Int := by3E n b (tBE a b 0 1) (rB2 a b)
def rturnedV (a b n : Int) : Value := ag [i (rturnAE a b n), i (rturnBE a b n)]
theorem rturned_pure (a b n : Int) : Pure Tryz.prog Hd Fn.ref03_Turn [ag [i a, i b], i n] (rturnedV a b n) := by
  let k := (wrapF .i64 (n.tmod 3 + 3)).tmod 3
  let v2 : Value := ag [i (rA2 a b), i (rB2 a b)]
  let s2 : VT := w3 k v2 (.leaf v2) (.leaf v2)
  let s1 : VT := w3 k (tmV a b 0 1) (.leaf (tmV a b 0 1)) s2
  refine pure_run (C := C3) (G := 4) 30 (w3 k (ag [i a, i b]) s1 s1) ts3 .none (by decide) hd_len rfl (by kernel_rfl) (by kernel_rfl) ?_
  have hk : k = thirdsE n := rfl
  unfold rturnedV rturnAE rturnBE by3E
  simp only [s1, s2, hk]
  unfold w3
  rcases thirds_cases n with h | h | h <;> simp [VT.sel, h, v2, tmV]
def turnedS : List Value → Option Value
  | [.agg ⟨[.int .i64 a, .int .i64 b]⟩, .int .i64 n] => some (turnedV a b n)
  | _ => none
def rturnedS : List Value → Option Value
  | [.agg ⟨[.int .i64 a, .int .i64 b]⟩, .int .i64 n] => some (rturnedV a b n)
  | _ => none
noncomputable def T4 : Tb := ext (ext T3 Fn.rotor_Pair_turned (pureE turnedS [0] Hg)) Fn.ref03_Turn (pureE rturnedS [] Hd)
theorem ts4 {G : Nat} : TSound Tryz.prog G T4 := by
  refine ((ts3.pure hg_vars fun args v h => ?_).pure hd_vars fun args v h => ?_)
  · unfold turnedS at h
    split at h
    · cases h; exact turned_pure _ _ _
    · cases h
  · unfold rturnedS at h
    split at h
    · cases h; exact rturned_pure _ _ _
    · cases h
noncomputable def C4 : Cfg := ⟨T4, sp_, off_, noL⟩
def okE (e x : Int) : Int := if e = 0 then x else 0
def ways1 (x : Int) (err : Int → Value) (ok : Value) : VT := .br (!eqF x 0) (.leaf (err x)) (.leaf ok)
theorem ways1_sel (x : Int) (err : Int → Value) (ok : Value) : (ways1 x err ok).sel = some (if x = 0 then ok else err x) := by
  unfold ways1
  by_cases h1 : x = 0 <;> simp [VT.sel, eqF_d, h1]
def ways3 (x y : Int) (err : Int → Value) (ok : Value) : VT := .br (!eqF x 0) (ways1 x err ok) (.br (!eqF y 0) (ways1 y err ok) (ways1 0 err ok))
theorem ways3_sel (x y : Int) (err : Int → Value) (ok : Value) : (ways3 x y err ok).sel = some (if firstE x y = 0 then ok else err (firstE x y)) := by
  unfold ways3 firstE
  by_cases h1 : x = 0 <;> by_cases h2 : y = 0 <;> simp [VT.sel, ways1_sel, eqF_d, h1, h2]
def errP (e : Int) : Value := tp [ag [i 0, i 0], i e]
def resP (e x y : Int) : Value := tp [ag [i (okE e x), i (okE e y)], i e]
theorem resP_eq (e x y : Int) : (if e = 0 then tp [ag [i x, i y], i 0] else errP e) = resP e x y := by
  unfold resP errP okE
  by_cases h : e = 0 <;> simp [h]
def errN (e : Int) : Value := tp [i 0, i e]
def resN (e x : Int) : Value := tp [i (okE e x), i e]
theorem resN_eq (e x : Int) : (if e = 0 then tp [i x, i 0] else errN e) = resN e x := by
  unfold resN errN okE
  by_cases h : e = 0 <;> simp [h]
def likeE (a b c d e f : Int) : Bool := decide (c = d ∧ ((d ≠ 0 ∧ a = 0 ∧ b = 0) ∨ (d = 0 ∧ a = e ∧ b = f)))
def like1E (a c d e : Int) : Bool := decide (c = d ∧ ((d ≠ 0 ∧ a = 0) ∨ (d = 0 ∧ a = e)))
def lf (b : Bool) : VT := .leaf (b_ b)
def wayL (c d : Int) (p q : Bool) : VT :=
  .br (eqF c d) (.br (!eqF d 0) (.br p (lf true) (.br (eqF d 0) (.br q (lf true) (lf false)) (lf false))) (.br (eqF d 0) (.br q (lf true) (lf false)) (lf false))) (lf false)
theorem wayL_sel (c d : Int) (p q : Bool) : (wayL c d p q).sel = some (b_ (decide (c = d ∧ ((d ≠ 0 ∧ p = true) ∨ (d = 0 ∧ q = true))))) := by
  unfold wayL lf
  cases p <;> cases q <;> by_cases h1 : c = d <;> by_cases h2 : d = 0 <;> first | (simp [VT.sel, eqF_d, h1, h2]; done) | (subst h2; simp [VT.sel, eqF_d, h1])
theorem like_pure (a b c d e f : Int) : Pure Tryz.prog Hd Fn.law03_pair [ag [i a, i b], i c, i d, ag [i e, i f]] (b_ (likeE a b c d e f)) := by
  refine pure_run (C := C4) (G := 4) 30 (wayL c d (a == 0 && (b == 0 && true)) (a == e && (b == f && true))) ts4 .none (by decide) hd_len rfl (by kernel_rfl) (by kernel_rfl) ?_
  rw [wayL_sel]; unfold likeE; simp
theorem like1_pure (a c d e : Int) : Pure Tryz.prog Hd Fn.law03_number [i a, i c, i d, i e] (b_ (like1E a c d e)) := by
  refine pure_run (C := C4) (G := 4) 30 (wayL c d (eqF a 0) (eqF a e)) ts4 .none (by decide) hd_len rfl (by kernel_rfl) (by kernel_rfl) ?_
  rw [wayL_sel]; unfold like1E; simp [eqF_d]
def likeS : List Value → Option Value
  | [.agg ⟨[.int .i64 a, .int .i64 b]⟩, .int .i64 c, .int .i64 d, .agg ⟨[.int .i64 e, .int .i64 f]⟩] => some (b_ (likeE a b c d e f))
  | _ => none
def like1S : List Value → Option Value
  | [.int .i64 a, .int .i64 c, .int .i64 d, .int .i64 e] => some (b_ (like1E a c d e))
  | _ => none
noncomputable def T5 : Tb := ext (ext T4 Fn.law03_pair (pureE likeS [] Hd)) Fn.law03_number (pureE like1S [] Hd)
theorem ts5 {G : Nat} : TSound Tryz.prog G T5 := by
  refine ((ts4.pure hd_vars fun args v h => ?_).pure hd_vars fun args v h => ?_)
  · unfold likeS at h
    split at h
    · cases h; exact like_pure _ _ _ _ _ _
    · cases h
  · unfold like1S at h
    split at h
    · cases h; exact like1_pure _ _ _ _
    · cases h
end Go.Proofs.YtbocpikgochioaaGreatDoor.Ways
