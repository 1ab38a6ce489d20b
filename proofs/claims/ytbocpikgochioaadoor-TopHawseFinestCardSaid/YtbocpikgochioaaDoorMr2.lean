import Derived.Test.YtbocpikgochioaaDoorMr1
import Derived.Test.YtbocpikgochioaaDoorEngOrd
import Derived.Test.YtbocpikgochioaaDoorEngOrd2
namespace Go.Proofs.YtbocpikgochioaaDoor.Ways
open Go Go.Ex
/-! ### the copy of a blade: its lists are made in an open order -/
def findR (id : Nat) : Code → Option (Array Oper)
  | .region id' ops _ => cond (Nat.beq id id') (some ops) none
  | .seq a b => match findR id a with
    | some c => some c
    | none => findR id b
  | .cond _ a b => match findR id a with
    | some c => some c
    | none => findR id b
  | .block _ b => findR id b
  | .scope b => findR id b
  | .loop b => findR id b
  | _ => none
def regOps (fn : Func) (id : Nat) : Array Oper :=
  match fn.body with
  | some c => match findR id c with
    | some o => o
    | none => #[]
  | none => #[]
noncomputable def O12 : Array Oper := regOps Tryd.f11 1
def states12 : List Nat := [0, 1, 2, 3, 6, 7, 14, 15, 31, 32, 33, 34, 35, 38, 39, 46, 47, 63, 64, 65, 66, 67, 70, 71, 78, 79, 95, 96, 97, 98, 99, 102, 103, 110, 111, 127, 192, 193, 194, 195, 198, 199, 206, 207, 223, 224, 225, 226, 227, 230, 231, 238, 239, 255, 448, 449, 450, 451, 454, 455, 462, 463, 479, 480, 481, 482, 483, 486, 487, 494, 495, 511, 1023, 2047, 4095, 4096, 4097, 4098, 4099, 4102, 4103, 4110, 4111, 4127, 4128, 4129, 4130, 4131, 4134, 4135, 4142, 4143, 4159, 4160, 4161, 4162, 4163, 4166, 4167, 4174, 4175, 4191, 4192, 4193, 4194, 4195, 4198, 4199, 4206, 4207, 4223, 4288, 4289, 4290, 4291, 4294, 4295, 4302, 4303, 4319, 4320, 4321, 4322, 4323, 4326, 4327, 4334, 4335, 4351, 4544, 4545, 4546, 4547, 4550, 4551, 4558, 4559, 4575, 4576, 4577, 4578, 4579, 4582, 4583, 4590, 4591, 4607, 5119, 6143, 8191, 16383]
noncomputable def CH0 : Cfg := ⟨TG0, no_, on_ [(Fn.law03_blade, 10), (Fn.law03_blade, 15)], noL⟩
def nilV : Value := .slice none 0 0
def bitC (m j : Nat) (x : CO × Bool) : CO × Bool := cond (Nat.testBit m j) x (.dead, false)
def bitV (m j : Nat) (x : Nat × Value) : List (Nat × Value) := cond (Nat.testBit m j) [x] []
def lA (z1 : Bool) (n1 : Nat) : Value := cond z1 (sl 9 0 0 0) (sl 10 0 n1 n1)
def lB (z2 : Bool) (n2 : Nat) : Value := cond z2 (sl 11 0 0 0) (sl 12 0 n2 n2)
def live12 (z1 z2 : Bool) (n1 c1 n2 c2 : Nat) (m : Nat) : List (Nat × Value) :=
  [(1, pt 7 0), (2, pt 8 0)] ++ bitV m 0 (6, sl 9 0 0 0) ++ bitV m 1 (7, pt 7 0) ++ bitV m 2 (8, pt 7 0) ++ bitV m 3 (9, sl 4 0 n1 c1) ++ bitV m 4 (10, lA z1 n1) ++ bitV m 5 (11, sl 11 0 0 0) ++ bitV m 6 (12, pt 7 0) ++ bitV m 7 (13, pt 7 1) ++ bitV m 8 (14, sl 5 0 n2 c2) ++ bitV m 9 (15, lB z2 n2) ++
    bitV m 10 (16, ag [lA z1 n1, lB z2 n2]) ++ bitV m 11 (17, ag [lA z1 n1, lB z2 n2, nilV]) ++ bitV m 12 (3, pt 13 0)
def base12 (cs1 : List Value) (t1 s1 : Nat) (e1 : Bool) (cs2 : List Value) (t2 s2 : Nat) (e2 : Bool) (cs3 : List Value) (t3 s3 : Nat) (e3 : Bool) (n1 c1 n2 c2 n : Nat) : List (CO × Bool) :=
  dd4 ++ [(.cells cs1 t1 s1 e1, true), (.cells cs2 t2 s2 e2, true), (.cells cs3 t3 s3 e3, true), (.cells [sl 4 0 n1 c1, sl 5 0 n2 c2, sl 6 0 n n] 27 1 true, false), (.cells [nilV, nilV, nilV] 38 1 true, false)]
def hp12 (z1 z2 : Bool) (cs1 : List Value) (t1 s1 : Nat) (e1 : Bool) (cs2 : List Value) (t2 s2 : Nat) (e2 : Bool) (cs3 : List Value) (t3 s3 : Nat) (e3 : Bool) (n1 c1 n2 c2 n : Nat) (m : Nat) : List (CO × Bool) :=
  base12 cs1 t1 s1 e1 cs2 t2 s2 e2 cs3 t3 s3 e3 n1 c1 n2 c2 n ++ [bitC m 0 (.cells [] 3 1 true, false), cond z1 (.dead, false) (bitC m 4 (.cells (List.take (n1 * 1) (List.drop 0 cs1)) 3 1 false, true)), bitC m 5 (.cells [] 3 1 true, false), cond z2 (.dead, false) (bitC m 9 (.cells (List.take (n2 * 1) (List.drop 0 cs2)) 3 1 false, true)),
    bitC m 12 (cond (Nat.testBit m 13) (.cells [lA z1 n1, lB z2 n2, nilV] 38 1 true) (.cells [nilV, nilV, nilV] 38 1 true), false)]
def repl (l : List Nat) (b c : Nat) : List Nat := l.set b c
def rho12 (z1 z2 : Bool) (i : Nat) : List Nat :=
  match i with
  | 0 => (List.range 14).set 9 14
  | 4 => cond z1 (List.range 14) ((List.range 14).set 10 14)
  | 5 => (List.range 14).set 11 14
  | 9 => cond z2 (List.range 14) ((List.range 14).set 12 14)
  | 12 => (List.range 14).set 13 14
  | _ => List.range 14
def len12 (z1 z2 : Bool) (i : Nat) : Nat :=
  match i with
  | 0 => 15
  | 4 => cond z1 14 15
  | 5 => 15
  | 9 => cond z2 14 15
  | 12 => 15
  | _ => 14
def ans12 (z1 z2 : Bool) (i : Nat) : List Bool :=
  match i with
  | 4 => cond z1 [true, true] [true, false, true]
  | 9 => cond z2 [true, true] [true, false, true]
  | _ => []
def cnd12 (z1 z2 : Bool) (cs1 cs2 : List Value) (n1 c1 n2 c2 : Nat) (i : Nat) : List Bool :=
  match i with
  | 4 => cond z1 [decide (n1 ≤ c1), decide (n1 = 0)] [decide (n1 ≤ c1), decide (n1 = 0), decide (n1 ≤ 1048576) && decide (0 + n1 * 1 ≤ cs1.length)]
  | 9 => cond z2 [decide (n2 ≤ c2), decide (n2 = 0)] [decide (n2 ≤ c2), decide (n2 = 0), decide (n2 ≤ 1048576) && decide (0 + n2 * 1 ≤ cs2.length)]
  | _ => []
section
variable (cs1 cs2 cs3 : List Value) (t1 s1 t2 s2 t3 s3 : Nat) (e1 e2 e3 : Bool) (n1 c1 n2 c2 n : Nat)
theorem o12_fix_ff : (trsN O12 states12).map (outN Tryd.prog 7 CH0 Fn.law03_blade O12 33 (live12 false false n1 c1 n2 c2) (hp12 false false cs1 t1 s1 e1 cs2 t2 s2 e2 cs3 t3 s3 e3 n1 c1 n2 c2 n)) = (trsN O12 states12).map fun t => (outN Tryd.prog 7 CH0 Fn.law03_blade O12 33 (live12 false false n1 c1 n2 c2) (hp12 false false cs1 t1 s1 e1 cs2 t2 s2 e2 cs3 t3 s3 e3 n1 c1 n2 c2 n) t).fix := by kernel_rfl
theorem o12_obs_ff : (trsN O12 states12).map (obsN Tryd.prog 7 CH0 Fn.law03_blade O12 33 (live12 false false n1 c1 n2 c2) (hp12 false false cs1 t1 s1 e1 cs2 t2 s2 e2 cs3 t3 s3 e3 n1 c1 n2 c2 n) (rho12 false false) (ans12 false false)) = (trsN O12 states12).map (expN 33 (live12 false false n1 c1 n2 c2) (hp12 false false cs1 t1 s1 e1 cs2 t2 s2 e2 cs3 t3 s3 e3 n1 c1 n2 c2 n) (rho12 false false) (cnd12 false false cs1 cs2 n1 c1 n2 c2) (len12 false false)) := by kernel_rfl
end
theorem closed12 : closedN O12 states12 16383 = true := by kernel_rfl
end Go.Proofs.YtbocpikgochioaaDoor.Ways
namespace Go.Proofs.YtbocpikgochioaaDoor.Ways
open Go Go.Ex
theorem flat_take {cs : List Value} (h : cs.all Ex.flat = true) (k j : Nat) : (List.take k (List.drop j cs)).all Ex.flat = true :=
  List.all_eq_true.2 fun x hx => List.all_eq_true.1 h x (List.mem_of_mem_drop (List.mem_of_mem_take hx))
section
variable {cs1 cs2 cs3 : List Value} {t1 s1 t2 s2 t3 s3 : Nat} {e1 e2 e3 : Bool} {n1 c1 n2 c2 n : Nat}
theorem flat12 {z1 z2 : Bool} (h1 : cs1.all Ex.flat = true) (h2 : cs2.all Ex.flat = true) (h3 : cs3.all Ex.flat = true) : ∀ m o, (o, true) ∈ hp12 z1 z2 cs1 t1 s1 e1 cs2 t2 s2 e2 cs3 t3 s3 e3 n1 c1 n2 c2 n m → FlatO o := by
  intro m o ho
  unfold hp12 base12 dd4 bitC at ho
  simp only [List.cons_append, List.nil_append, List.mem_cons, List.not_mem_nil, or_false, Prod.mk.injEq, Bool.true_eq_false, and_false, false_or] at ho
  have q : ∀ {cs : List Value} {t s : Nat} {e : Bool}, cs.all Ex.flat = true → FlatO (.cells cs t s e) := fun h => fun x hx => List.all_eq_true.1 h x hx
  rcases ho with ⟨rfl, _⟩ | ⟨rfl, _⟩ | ⟨rfl, _⟩ | ho | ho | ho | ho | ho
  · exact q h1
  · exact q h2
  · exact q h3
  all_goals
    cases z1 <;> cases z2 <;> (revert ho; simp only [cond]; intro ho; repeat' split at ho) <;> first
      | (cases ho; done)
      | (injection ho with h4 h5; subst h4; exact q (flat_take (by assumption) _ _))
variable (cs1 cs2 cs3 t1 s1 t2 s2 t3 s3 e1 e2 e3 n1 c1 n2 c2 n)
theorem o12_good_ff : ((trsN O12 states12).all fun t => goodR 9 (len12 false false t.2) ((live12 false false n1 c1 n2 c2) (t.1 ||| 2 ^ t.2)) ((hp12 false false cs1 t1 s1 e1 cs2 t2 s2 e2 cs3 t3 s3 e3 n1 c1 n2 c2 n) (t.1 ||| 2 ^ t.2)) (rho12 false false t.2)) = true := by kernel_rfl
theorem o12_fix_ft : (trsN O12 states12).map (outN Tryd.prog 7 CH0 Fn.law03_blade O12 33 (live12 false true n1 c1 n2 c2) (hp12 false true cs1 t1 s1 e1 cs2 t2 s2 e2 cs3 t3 s3 e3 n1 c1 n2 c2 n)) = (trsN O12 states12).map fun t => (outN Tryd.prog 7 CH0 Fn.law03_blade O12 33 (live12 false true n1 c1 n2 c2) (hp12 false true cs1 t1 s1 e1 cs2 t2 s2 e2 cs3 t3 s3 e3 n1 c1 n2 c2 n) t).fix := by kernel_rfl
theorem o12_obs_ft : (trsN O12 states12).map (obsN Tryd.prog 7 CH0 Fn.law03_blade O12 33 (live12 false true n1 c1 n2 c2) (hp12 false true cs1 t1 s1 e1 cs2 t2 s2 e2 cs3 t3 s3 e3 n1 c1 n2 c2 n) (rho12 false true) (ans12 false true)) = (trsN O12 states12).map (expN 33 (live12 false true n1 c1 n2 c2) (hp12 false true cs1 t1 s1 e1 cs2 t2 s2 e2 cs3 t3 s3 e3 n1 c1 n2 c2 n) (rho12 false true) (cnd12 false true cs1 cs2 n1 c1 n2 c2) (len12 false true)) := by kernel_rfl
theorem o12_good_ft : ((trsN O12 states12).all fun t => goodR 9 (len12 false true t.2) ((live12 false true n1 c1 n2 c2) (t.1 ||| 2 ^ t.2)) ((hp12 false true cs1 t1 s1 e1 cs2 t2 s2 e2 cs3 t3 s3 e3 n1 c1 n2 c2 n) (t.1 ||| 2 ^ t.2)) (rho12 false true t.2)) = true := by kernel_rfl
theorem o12_fix_tf : (trsN O12 states12).map (outN Tryd.prog 7 CH0 Fn.law03_blade O12 33 (live12 true false n1 c1 n2 c2) (hp12 true false cs1 t1 s1 e1 cs2 t2 s2 e2 cs3 t3 s3 e3 n1 c1 n2 c2 n)) = (trsN O12 states12).map fun t => (outN Tryd.prog 7 CH0 Fn.law03_blade O12 33 (live12 true false n1 c1 n2 c2) (hp12 true false cs1 t1 s1 e1 cs2 t2 s2 e2 cs3 t3 s3 e3 n1 c1 n2 c2 n) t).fix := by kernel_rfl
theorem o12_obs_tf : (trsN O12 states12).map (obsN Tryd.prog 7 CH0 Fn.law03_blade O12 33 (live12 true false n1 c1 n2 c2) (hp12 true false cs1 t1 s1 e1 cs2 t2 s2 e2 cs3 t3 s3 e3 n1 c1 n2 c2 n) (rho12 true false) (ans12 true false)) = (trsN O12 states12).map (expN 33 (live12 true false n1 c1 n2 c2) (hp12 true false cs1 t1 s1 e1 cs2 t2 s2 e2 cs3 t3 s3 e3 n1 c1 n2 c2 n) (rho12 true false) (cnd12 true false cs1 cs2 n1 c1 n2 c2) (len12 true false)) := by kernel_rfl
theorem o12_good_tf : ((trsN O12 states12).all fun t => goodR 9 (len12 true false t.2) ((live12 true false n1 c1 n2 c2) (t.1 ||| 2 ^ t.2)) ((hp12 true false cs1 t1 s1 e1 cs2 t2 s2 e2 cs3 t3 s3 e3 n1 c1 n2 c2 n) (t.1 ||| 2 ^ t.2)) (rho12 true false t.2)) = true := by kernel_rfl
theorem o12_fix_tt : (trsN O12 states12).map (outN Tryd.prog 7 CH0 Fn.law03_blade O12 33 (live12 true true n1 c1 n2 c2) (hp12 true true cs1 t1 s1 e1 cs2 t2 s2 e2 cs3 t3 s3 e3 n1 c1 n2 c2 n)) = (trsN O12 states12).map fun t => (outN Tryd.prog 7 CH0 Fn.law03_blade O12 33 (live12 true true n1 c1 n2 c2) (hp12 true true cs1 t1 s1 e1 cs2 t2 s2 e2 cs3 t3 s3 e3 n1 c1 n2 c2 n) t).fix := by kernel_rfl
theorem o12_obs_tt : (trsN O12 states12).map (obsN Tryd.prog 7 CH0 Fn.law03_blade O12 33 (live12 true true n1 c1 n2 c2) (hp12 true true cs1 t1 s1 e1 cs2 t2 s2 e2 cs3 t3 s3 e3 n1 c1 n2 c2 n) (rho12 true true) (ans12 true true)) = (trsN O12 states12).map (expN 33 (live12 true true n1 c1 n2 c2) (hp12 true true cs1 t1 s1 e1 cs2 t2 s2 e2 cs3 t3 s3 e3 n1 c1 n2 c2 n) (rho12 true true) (cnd12 true true cs1 cs2 n1 c1 n2 c2) (len12 true true)) := by kernel_rfl
theorem o12_good_tt : ((trsN O12 states12).all fun t => goodR 9 (len12 true true t.2) ((live12 true true n1 c1 n2 c2) (t.1 ||| 2 ^ t.2)) ((hp12 true true cs1 t1 s1 e1 cs2 t2 s2 e2 cs3 t3 s3 e3 n1 c1 n2 c2 n) (t.1 ||| 2 ^ t.2)) (rho12 true true t.2)) = true := by kernel_rfl
end
theorem tsG0' {G : Nat} : TSound Tryd.prog G TG0 := tsG0
theorem mix12 : Tryd.prog.follows .mixedOrders = true := by kernel_rfl
end Go.Proofs.YtbocpikgochioaaDoor.Ways
namespace Go.Proofs.YtbocpikgochioaaDoor.Ways
open Go Go.Ex
section
variable (z1 z2 : Bool) (cs1 cs2 cs3 : List Value) (t1 s1 t2 s2 t3 s3 : Nat) (e1 e2 e3 : Bool) (n1 c1 n2 c2 n : Nat)
noncomputable def L12 : LTab := regE noL Fn.law03_blade 1 33 9 O12 (live12 z1 z2 n1 c1 n2 c2 0) (base12 cs1 t1 s1 e1 cs2 t2 s2 e2 cs3 t3 s3 e3 n1 c1 n2 c2 n) (.leaf (.ex .normal (tmL 33 (live12 z1 z2 n1 c1 n2 c2 16383)) (heapL ((hp12 z1 z2 cs1 t1 s1 e1 cs2 t2 s2 e2 cs3 t3 s3 e3 n1 c1 n2 c2 n 16383).map (·.1))) []))
end
theorem cnd12_ok {z1 z2 : Bool} {cs1 cs2 : List Value} {n1 c1 n2 c2 : Nat} (h1 : n1 ≤ c1 ∧ n1 ≤ 1000000 ∧ cs1.length = n1 ∧ decide (n1 = 0) = z1) (h2 : n2 ≤ c2 ∧ n2 ≤ 1000000 ∧ cs2.length = n2 ∧ decide (n2 = 0) = z2) :
    ∀ i, cnd12 z1 z2 cs1 cs2 n1 c1 n2 c2 i = (ans12 z1 z2 i).take (cnd12 z1 z2 cs1 cs2 n1 c1 n2 c2 i).length := by
  obtain ⟨a1, a2, a3, a4⟩ := h1
  obtain ⟨b1, b2, b3, b4⟩ := h2
  have q1 : (decide (n1 ≤ 1048576) && decide (0 + n1 * 1 ≤ cs1.length)) = true := by simp; omega
  have q2 : (decide (n2 ≤ 1048576) && decide (0 + n2 * 1 ≤ cs2.length)) = true := by simp; omega
  intro i
  unfold cnd12 ans12
  split
  · rw [decide_eq_true a1, q1, a4]
    cases z1 <;> rfl
  · rw [decide_eq_true b1, q2, b4]
    cases z2 <;> rfl
  · rfl
section
variable {cs1 cs2 cs3 : List Value} {t1 s1 t2 s2 t3 s3 : Nat} {e1 e2 e3 : Bool} {n1 c1 n2 c2 n : Nat}
theorem flatB12 (h1 : cs1.all Ex.flat = true) (h2 : cs2.all Ex.flat = true) (h3 : cs3.all Ex.flat = true) : ∀ o, (o, true) ∈ base12 cs1 t1 s1 e1 cs2 t2 s2 e2 cs3 t3 s3 e3 n1 c1 n2 c2 n → FlatO o := by
  intro o ho
  have hm : (o, true) ∈ hp12 true true cs1 t1 s1 e1 cs2 t2 s2 e2 cs3 t3 s3 e3 n1 c1 n2 c2 n 0 := by
    unfold hp12
    exact List.mem_append_left _ ho
  exact flat12 h1 h2 h3 0 o hm
theorem ls12_ff (h1 : cs1.all Ex.flat = true) (h2 : cs2.all Ex.flat = true) (h3 : cs3.all Ex.flat = true) (g1 : n1 ≤ c1 ∧ n1 ≤ 1000000 ∧ cs1.length = n1 ∧ decide (n1 = 0) = false) (g2 : n2 ≤ c2 ∧ n2 ≤ 1000000 ∧ cs2.length = n2 ∧ decide (n2 = 0) = false) : LSound Tryd.prog 7 (L12 false false cs1 cs2 cs3 t1 s1 t2 s2 t3 s3 e1 e2 e3 n1 c1 n2 c2 n) := by
  refine LSound.region .none (by kernel_rfl) (flatB12 h1 h2 h3) fun r hr ro tm0 H0 hk hst => ?_
  cases hr
  have ho := orders_of states12 (o12_fix_ff cs1 cs2 cs3 t1 s1 t2 s2 t3 s3 e1 e2 e3 n1 c1 n2 c2 n) (o12_obs_ff cs1 cs2 cs3 t1 s1 t2 s2 t3 s3 e1 e2 e3 n1 c1 n2 c2 n) (cnd12_ok g1 g2) (o12_good_ff cs1 cs2 cs3 t1 s1 t2 s2 t3 s3 e1 e2 e3 n1 c1 n2 c2 n) closed12 (flat12 h1 h2 h3)
  rw [← hk] at ho hst
  exact orders_sound2 (id := 1) (j := 5) (qS_selfSound noW_sound) mix12 ho (by rw [hk]; decide) (by decide) (by kernel_rfl) hst ro
theorem ls12_ft (h1 : cs1.all Ex.flat = true) (h2 : cs2.all Ex.flat = true) (h3 : cs3.all Ex.flat = true) (g1 : n1 ≤ c1 ∧ n1 ≤ 1000000 ∧ cs1.length = n1 ∧ decide (n1 = 0) = false) (g2 : n2 ≤ c2 ∧ n2 ≤ 1000000 ∧ cs2.length = n2 ∧ decide (n2 = 0) = true) : LSound Tryd.prog 7 (L12 false true cs1 cs2 cs3 t1 s1 t2 s2 t3 s3 e1 e2 e3 n1 c1 n2 c2 n) := by
  refine LSound.region .none (by kernel_rfl) (flatB12 h1 h2 h3) fun r hr ro tm0 H0 hk hst => ?_
  cases hr
  have ho := orders_of states12 (o12_fix_ft cs1 cs2 cs3 t1 s1 t2 s2 t3 s3 e1 e2 e3 n1 c1 n2 c2 n) (o12_obs_ft cs1 cs2 cs3 t1 s1 t2 s2 t3 s3 e1 e2 e3 n1 c1 n2 c2 n) (cnd12_ok g1 g2) (o12_good_ft cs1 cs2 cs3 t1 s1 t2 s2 t3 s3 e1 e2 e3 n1 c1 n2 c2 n) closed12 (flat12 h1 h2 h3)
  rw [← hk] at ho hst
  exact orders_sound2 (id := 1) (j := 5) (qS_selfSound noW_sound) mix12 ho (by rw [hk]; decide) (by decide) (by kernel_rfl) hst ro
theorem ls12_tf (h1 : cs1.all Ex.flat = true) (h2 : cs2.all Ex.flat = true) (h3 : cs3.all Ex.flat = true) (g1 : n1 ≤ c1 ∧ n1 ≤ 1000000 ∧ cs1.length = n1 ∧ decide (n1 = 0) = true) (g2 : n2 ≤ c2 ∧ n2 ≤ 1000000 ∧ cs2.length = n2 ∧ decide (n2 = 0) = false) : LSound Tryd.prog 7 (L12 true false cs1 cs2 cs3 t1 s1 t2 s2 t3 s3 e1 e2 e3 n1 c1 n2 c2 n) := by
  refine LSound.region .none (by kernel_rfl) (flatB12 h1 h2 h3) fun r hr ro tm0 H0 hk hst => ?_
  cases hr
  have ho := orders_of states12 (o12_fix_tf cs1 cs2 cs3 t1 s1 t2 s2 t3 s3 e1 e2 e3 n1 c1 n2 c2 n) (o12_obs_tf cs1 cs2 cs3 t1 s1 t2 s2 t3 s3 e1 e2 e3 n1 c1 n2 c2 n) (cnd12_ok g1 g2) (o12_good_tf cs1 cs2 cs3 t1 s1 t2 s2 t3 s3 e1 e2 e3 n1 c1 n2 c2 n) closed12 (flat12 h1 h2 h3)
  rw [← hk] at ho hst
  exact orders_sound2 (id := 1) (j := 5) (qS_selfSound noW_sound) mix12 ho (by rw [hk]; decide) (by decide) (by kernel_rfl) hst ro
theorem ls12_tt (h1 : cs1.all Ex.flat = true) (h2 : cs2.all Ex.flat = true) (h3 : cs3.all Ex.flat = true) (g1 : n1 ≤ c1 ∧ n1 ≤ 1000000 ∧ cs1.length = n1 ∧ decide (n1 = 0) = true) (g2 : n2 ≤ c2 ∧ n2 ≤ 1000000 ∧ cs2.length = n2 ∧ decide (n2 = 0) = true) : LSound Tryd.prog 7 (L12 true true cs1 cs2 cs3 t1 s1 t2 s2 t3 s3 e1 e2 e3 n1 c1 n2 c2 n) := by
  refine LSound.region .none (by kernel_rfl) (flatB12 h1 h2 h3) fun r hr ro tm0 H0 hk hst => ?_
  cases hr
  have ho := orders_of states12 (o12_fix_tt cs1 cs2 cs3 t1 s1 t2 s2 t3 s3 e1 e2 e3 n1 c1 n2 c2 n) (o12_obs_tt cs1 cs2 cs3 t1 s1 t2 s2 t3 s3 e1 e2 e3 n1 c1 n2 c2 n) (cnd12_ok g1 g2) (o12_good_tt cs1 cs2 cs3 t1 s1 t2 s2 t3 s3 e1 e2 e3 n1 c1 n2 c2 n) closed12 (flat12 h1 h2 h3)
  rw [← hk] at ho hst
  exact orders_sound2 (id := 1) (j := 5) (qS_selfSound noW_sound) mix12 ho (by rw [hk]; decide) (by decide) (by kernel_rfl) hst ro
end
noncomputable def CJ (z1 z2 : Bool) (cs1 cs2 cs3 : List Value) (t1 s1 t2 s2 t3 s3 : Nat) (e1 e2 e3 : Bool) (n1 c1 n2 c2 n : Nat) : Cfg := ⟨TG0, no_, off_, L12 z1 z2 cs1 cs2 cs3 t1 s1 t2 s2 t3 s3 e1 e2 e3 n1 c1 n2 c2 n⟩
/-- what is seen of a value and of the blocks that it names -/
noncomputable def obsV (κ : List Nat) (r : QRes) : Option (Value × Nat × List (Option CO)) :=
  match r with
  | .val v H => some (v, H.length, κ.map fun c => H[c]?)
  | .ex _ _ _ _ => none
noncomputable def seenV (κ : List Nat) (o : Out QRes) : Option (List Bool × Option (Value × Nat × List (Option CO))) :=
  match o.way [] with
  | some x => some (x.1, obsV κ x.2)
  | none => none
end Go.Proofs.YtbocpikgochioaaDoor.Ways
namespace Go.Proofs.YtbocpikgochioaaDoor.Ways
open Go Go.Ex
/-- the copies lie in these blocks -/
structure Cop (H' : CH) (v : Value) (cs1 cs2 : List Value) (n1 n2 : Nat) (R : Value) (kA kB : Nat) : Prop where
  val : v = ag [sl kA 0 n1 n1, sl kB 0 n2 n2, R]
  a : ∃ ex, H'[kA]? = some (.cells cs1 3 1 ex)
  b : ∃ ex, H'[kB]? = some (.cells cs2 3 1 ex)
  ge : 7 ≤ kA ∧ kA < kB
theorem take_all {cs : List Value} {n : Nat} (h : cs.length = n) : List.take (n * 1) (List.drop 0 cs) = cs := by
  rw [List.drop_zero, List.take_of_length_le (by omega)]
theorem seen_sel {o : Out QRes} {κ : List Nat} {v : Value} {len : Nat} {bl : List (Option CO)} (hf : o = o.fix) (h : seenV κ o = some ([], some (v, len, bl))) : ∃ H', o.sel = some (.val v H') ∧ H'.length = len ∧ κ.map (fun c => H'[c]?) = bl := by
  unfold seenV at h
  split at h
  case h_2 => cases h
  rename_i x hx
  obtain ⟨cs, r⟩ := x
  simp only [Option.some.injEq, Prod.mk.injEq] at h
  obtain ⟨rfl, h2⟩ := h
  cases r with
  | ex x tm H df => cases h2
  | val u H =>
    unfold obsV at h2
    simp only [Option.some.injEq, Prod.mk.injEq] at h2
    obtain ⟨rfl, h3, h4⟩ := h2
    exact ⟨H, Out.way_sel hf hx rfl, h3, h4⟩
def cellA (z : Bool) (cs : List Value) (n : Nat) : CO := cond z (.cells [] 3 1 true) (.cells (List.take (n * 1) (List.drop 0 cs)) 3 1 false)
theorem cellA_eq {z : Bool} {cs : List Value} {n : Nat} (h : cs.length = n) (hz : decide (n = 0) = z) : ∃ ex, cellA z cs n = .cells cs 3 1 ex := by
  cases z with
  | true =>
    have : n = 0 := of_decide_eq_true hz
    subst this
    rw [List.eq_nil_of_length_eq_zero h]
    exact ⟨true, rfl⟩
  | false =>
    refine ⟨false, ?_⟩
    show CO.cells (List.take (n * 1) (List.drop 0 cs)) 3 1 false = _
    rw [take_all h]
theorem lA_eq {z : Bool} {n : Nat} (hz : decide (n = 0) = z) : lA z n = sl (cond z 9 10) 0 n n := by
  cases z with
  | true =>
    have : n = 0 := of_decide_eq_true hz
    subst this; rfl
  | false => rfl
theorem lB_eq {z : Bool} {n : Nat} (hz : decide (n = 0) = z) : lB z n = sl (cond z 11 12) 0 n n := by
  cases z with
  | true =>
    have : n = 0 := of_decide_eq_true hz
    subst this; rfl
  | false => rfl
section
variable {cs1 cs2 : List Value} {t1 s1 t2 s2 t3 s3 : Nat} {e1 e2 e3 : Bool} {n1 c1 n2 c2 : Nat} {ρ : Nat → Int}
theorem cp_0_ff (g1 : n1 ≤ c1 ∧ n1 ≤ 1000000 ∧ cs1.length = n1 ∧ decide (n1 = 0) = false) (g2 : n2 ≤ c2 ∧ n2 ≤ 1000000 ∧ cs2.length = n2 ∧ decide (n2 = 0) = false) (f1 : cs1.all Ex.flat = true) (f2 : cs2.all Ex.flat = true) :
    ∃ v H', Sound Tryd.prog 7 (.call Fn.law03_blade ⟨[blV n1 c1 n2 c2 (sl 6 0 0 0)]⟩ (hpB cs1 t1 s1 e1 cs2 t2 s2 e2 (ringC ρ 0) t3 s3 e3)) (.val v H') ∧ H'.length = 14 ∧ (∃ kA kB, Cop H' v cs1 cs2 n1 n2 nilV kA kB ∧ kB < 13) ∧ True := by
  obtain ⟨H', hs, hl, hb⟩ := seen_sel (o := execO Tryd.prog 7 (CJ false false cs1 cs2 (ringC ρ 0) t1 s1 t2 s2 t3 s3 e1 e2 e3 n1 c1 n2 c2 0) 60 (.call Fn.law03_blade ⟨[blV n1 c1 n2 c2 (sl 6 0 0 0)]⟩ (hpB cs1 t1 s1 e1 cs2 t2 s2 e2 (ringC ρ 0) t3 s3 e3))) (κ := [10, 12]) (v := ag [lA false n1, lB false n2, nilV]) (len := 14) (bl := [some (cellA false cs1 n1), some (cellA false cs2 n2)]) (by kernel_rfl) (by kernel_rfl)
  simp only [List.map_cons, List.map_nil, List.cons.injEq, and_true] at hb
  obtain ⟨h5, h6⟩ := hb
  obtain ⟨x1, q1⟩ := cellA_eq g1.2.2.1 g1.2.2.2
  obtain ⟨x2, q2⟩ := cellA_eq g2.2.2.1 g2.2.2.2
  rw [q1] at h5
  rw [q2] at h6
  refine ⟨_, H', execO_sound (C := (CJ false false cs1 cs2 (ringC ρ 0) t1 s1 t2 s2 t3 s3 e1 e2 e3 n1 c1 n2 c2 0)) tsG0 (ls12_ff f1 f2 (ringC_flat ρ 0) g1 g2) 60 _ _ hs, hl, ⟨10, 12, ⟨?_, ⟨x1, h5⟩, ⟨x2, h6⟩, by decide⟩, by decide⟩, trivial⟩
  rw [lA_eq g1.2.2.2, lB_eq g2.2.2.2]; rfl
theorem cp_0_ft (g1 : n1 ≤ c1 ∧ n1 ≤ 1000000 ∧ cs1.length = n1 ∧ decide (n1 = 0) = false) (g2 : n2 ≤ c2 ∧ n2 ≤ 1000000 ∧ cs2.length = n2 ∧ decide (n2 = 0) = true) (f1 : cs1.all Ex.flat = true) (f2 : cs2.all Ex.flat = true) :
    ∃ v H', Sound Tryd.prog 7 (.call Fn.law03_blade ⟨[blV n1 c1 n2 c2 (sl 6 0 0 0)]⟩ (hpB cs1 t1 s1 e1 cs2 t2 s2 e2 (ringC ρ 0) t3 s3 e3)) (.val v H') ∧ H'.length = 14 ∧ (∃ kA kB, Cop H' v cs1 cs2 n1 n2 nilV kA kB ∧ kB < 13) ∧ True := by
  obtain ⟨H', hs, hl, hb⟩ := seen_sel (o := execO Tryd.prog 7 (CJ false true cs1 cs2 (ringC ρ 0) t1 s1 t2 s2 t3 s3 e1 e2 e3 n1 c1 n2 c2 0) 60 (.call Fn.law03_blade ⟨[blV n1 c1 n2 c2 (sl 6 0 0 0)]⟩ (hpB cs1 t1 s1 e1 cs2 t2 s2 e2 (ringC ρ 0) t3 s3 e3))) (κ := [10, 11]) (v := ag [lA false n1, lB true n2, nilV]) (len := 14) (bl := [some (cellA false cs1 n1), some (cellA true cs2 n2)]) (by kernel_rfl) (by kernel_rfl)
  simp only [List.map_cons, List.map_nil, List.cons.injEq, and_true] at hb
  obtain ⟨h5, h6⟩ := hb
  obtain ⟨x1, q1⟩ := cellA_eq g1.2.2.1 g1.2.2.2
  obtain ⟨x2, q2⟩ := cellA_eq g2.2.2.1 g2.2.2.2
  rw [q1] at h5
  rw [q2] at h6
  refine ⟨_, H', execO_sound (C := (CJ false true cs1 cs2 (ringC ρ 0) t1 s1 t2 s2 t3 s3 e1 e2 e3 n1 c1 n2 c2 0)) tsG0 (ls12_ft f1 f2 (ringC_flat ρ 0) g1 g2) 60 _ _ hs, hl, ⟨10, 11, ⟨?_, ⟨x1, h5⟩, ⟨x2, h6⟩, by decide⟩, by decide⟩, trivial⟩
  rw [lA_eq g1.2.2.2, lB_eq g2.2.2.2]; rfl
theorem cp_0_tf (g1 : n1 ≤ c1 ∧ n1 ≤ 1000000 ∧ cs1.length = n1 ∧ decide (n1 = 0) = true) (g2 : n2 ≤ c2 ∧ n2 ≤ 1000000 ∧ cs2.length = n2 ∧ decide (n2 = 0) = false) (f1 : cs1.all Ex.flat = true) (f2 : cs2.all Ex.flat = true) :
    ∃ v H', Sound Tryd.prog 7 (.call Fn.law03_blade ⟨[blV n1 c1 n2 c2 (sl 6 0 0 0)]⟩ (hpB cs1 t1 s1 e1 cs2 t2 s2 e2 (ringC ρ 0) t3 s3 e3)) (.val v H') ∧ H'.length = 14 ∧ (∃ kA kB, Cop H' v cs1 cs2 n1 n2 nilV kA kB ∧ kB < 13) ∧ True := by
  obtain ⟨H', hs, hl, hb⟩ := seen_sel (o := execO Tryd.prog 7 (CJ true false cs1 cs2 (ringC ρ 0) t1 s1 t2 s2 t3 s3 e1 e2 e3 n1 c1 n2 c2 0) 60 (.call Fn.law03_blade ⟨[blV n1 c1 n2 c2 (sl 6 0 0 0)]⟩ (hpB cs1 t1 s1 e1 cs2 t2 s2 e2 (ringC ρ 0) t3 s3 e3))) (κ := [9, 12]) (v := ag [lA true n1, lB false n2, nilV]) (len := 14) (bl := [some (cellA true cs1 n1), some (cellA false cs2 n2)]) (by kernel_rfl) (by kernel_rfl)
  simp only [List.map_cons, List.map_nil, List.cons.injEq, and_true] at hb
  obtain ⟨h5, h6⟩ := hb
  obtain ⟨x1, q1⟩ := cellA_eq g1.2.2.1 g1.2.2.2
  obtain ⟨x2, q2⟩ := cellA_eq g2.2.2.1 g2.2.2.2
  rw [q1] at h5
  rw [q2] at h6
  refine ⟨_, H', execO_sound (C := (CJ true false cs1 cs2 (ringC ρ 0) t1 s1 t2 s2 t3 s3 e1 e2 e3 n1 c1 n2 c2 0)) tsG0 (ls12_tf f1 f2 (ringC_flat ρ 0) g1 g2) 60 _ _ hs, hl, ⟨9, 12, ⟨?_, ⟨x1, h5⟩, ⟨x2, h6⟩, by decide⟩, by decide⟩, trivial⟩
  rw [lA_eq g1.2.2.2, lB_eq g2.2.2.2]; rfl
theorem cp_0_tt (g1 : n1 ≤ c1 ∧ n1 ≤ 1000000 ∧ cs1.length = n1 ∧ decide (n1 = 0) = true) (g2 : n2 ≤ c2 ∧ n2 ≤ 1000000 ∧ cs2.length = n2 ∧ decide (n2 = 0) = true) (f1 : cs1.all Ex.flat = true) (f2 : cs2.all Ex.flat = true) :
    ∃ v H', Sound Tryd.prog 7 (.call Fn.law03_blade ⟨[blV n1 c1 n2 c2 (sl 6 0 0 0)]⟩ (hpB cs1 t1 s1 e1 cs2 t2 s2 e2 (ringC ρ 0) t3 s3 e3)) (.val v H') ∧ H'.length = 14 ∧ (∃ kA kB, Cop H' v cs1 cs2 n1 n2 nilV kA kB ∧ kB < 13) ∧ True := by
  obtain ⟨H', hs, hl, hb⟩ := seen_sel (o := execO Tryd.prog 7 (CJ true true cs1 cs2 (ringC ρ 0) t1 s1 t2 s2 t3 s3 e1 e2 e3 n1 c1 n2 c2 0) 60 (.call Fn.law03_blade ⟨[blV n1 c1 n2 c2 (sl 6 0 0 0)]⟩ (hpB cs1 t1 s1 e1 cs2 t2 s2 e2 (ringC ρ 0) t3 s3 e3))) (κ := [9, 11]) (v := ag [lA true n1, lB true n2, nilV]) (len := 14) (bl := [some (cellA true cs1 n1), some (cellA true cs2 n2)]) (by kernel_rfl) (by kernel_rfl)
  simp only [List.map_cons, List.map_nil, List.cons.injEq, and_true] at hb
  obtain ⟨h5, h6⟩ := hb
  obtain ⟨x1, q1⟩ := cellA_eq g1.2.2.1 g1.2.2.2
  obtain ⟨x2, q2⟩ := cellA_eq g2.2.2.1 g2.2.2.2
  rw [q1] at h5
  rw [q2] at h6
  refine ⟨_, H', execO_sound (C := (CJ true true cs1 cs2 (ringC ρ 0) t1 s1 t2 s2 t3 s3 e1 e2 e3 n1 c1 n2 c2 0)) tsG0 (ls12_tt f1 f2 (ringC_flat ρ 0) g1 g2) 60 _ _ hs, hl, ⟨9, 11, ⟨?_, ⟨x1, h5⟩, ⟨x2, h6⟩, by decide⟩, by decide⟩, trivial⟩
  rw [lA_eq g1.2.2.2, lB_eq g2.2.2.2]; rfl
theorem cp_1_ff (g1 : n1 ≤ c1 ∧ n1 ≤ 1000000 ∧ cs1.length = n1 ∧ decide (n1 = 0) = false) (g2 : n2 ≤ c2 ∧ n2 ≤ 1000000 ∧ cs2.length = n2 ∧ decide (n2 = 0) = false) (f1 : cs1.all Ex.flat = true) (f2 : cs2.all Ex.flat = true) :
    ∃ v H', Sound Tryd.prog 7 (.call Fn.law03_blade ⟨[blV n1 c1 n2 c2 (sl 6 0 1 1)]⟩ (hpB cs1 t1 s1 e1 cs2 t2 s2 e2 (ringC ρ 1) t3 s3 e3)) (.val v H') ∧ H'.length = 17 ∧ (∃ kA kB, Cop H' v cs1 cs2 n1 n2 (sl 16 0 1 1) kA kB ∧ kB < 13) ∧ H'[16]? = some (.cells (ringC ρ 1) 103 4 false) := by
  obtain ⟨H', hs, hl, hb⟩ := seen_sel (o := execO Tryd.prog 7 (CJ false false cs1 cs2 (ringC ρ 1) t1 s1 t2 s2 t3 s3 e1 e2 e3 n1 c1 n2 c2 1) 60 (.call Fn.law03_blade ⟨[blV n1 c1 n2 c2 (sl 6 0 1 1)]⟩ (hpB cs1 t1 s1 e1 cs2 t2 s2 e2 (ringC ρ 1) t3 s3 e3))) (κ := [10, 12, 16]) (v := ag [lA false n1, lB false n2, (sl 16 0 1 1)]) (len := 17) (bl := [some (cellA false cs1 n1), some (cellA false cs2 n2), some (.cells (ringC ρ 1) 103 4 false)]) (by kernel_rfl) (by kernel_rfl)
  simp only [List.map_cons, List.map_nil, List.cons.injEq, and_true] at hb
  obtain ⟨h5, h6, h7⟩ := hb
  obtain ⟨x1, q1⟩ := cellA_eq g1.2.2.1 g1.2.2.2
  obtain ⟨x2, q2⟩ := cellA_eq g2.2.2.1 g2.2.2.2
  rw [q1] at h5
  rw [q2] at h6
  refine ⟨_, H', execO_sound (C := (CJ false false cs1 cs2 (ringC ρ 1) t1 s1 t2 s2 t3 s3 e1 e2 e3 n1 c1 n2 c2 1)) tsG0 (ls12_ff f1 f2 (ringC_flat ρ 1) g1 g2) 60 _ _ hs, hl, ⟨10, 12, ⟨?_, ⟨x1, h5⟩, ⟨x2, h6⟩, by decide⟩, by decide⟩, h7⟩
  rw [lA_eq g1.2.2.2, lB_eq g2.2.2.2]; rfl
theorem cp_1_ft (g1 : n1 ≤ c1 ∧ n1 ≤ 1000000 ∧ cs1.length = n1 ∧ decide (n1 = 0) = false) (g2 : n2 ≤ c2 ∧ n2 ≤ 1000000 ∧ cs2.length = n2 ∧ decide (n2 = 0) = true) (f1 : cs1.all Ex.flat = true) (f2 : cs2.all Ex.flat = true) :
    ∃ v H', Sound Tryd.prog 7 (.call Fn.law03_blade ⟨[blV n1 c1 n2 c2 (sl 6 0 1 1)]⟩ (hpB cs1 t1 s1 e1 cs2 t2 s2 e2 (ringC ρ 1) t3 s3 e3)) (.val v H') ∧ H'.length = 17 ∧ (∃ kA kB, Cop H' v cs1 cs2 n1 n2 (sl 16 0 1 1) kA kB ∧ kB < 13) ∧ H'[16]? = some (.cells (ringC ρ 1) 103 4 false) := by
  obtain ⟨H', hs, hl, hb⟩ := seen_sel (o := execO Tryd.prog 7 (CJ false true cs1 cs2 (ringC ρ 1) t1 s1 t2 s2 t3 s3 e1 e2 e3 n1 c1 n2 c2 1) 60 (.call Fn.law03_blade ⟨[blV n1 c1 n2 c2 (sl 6 0 1 1)]⟩ (hpB cs1 t1 s1 e1 cs2 t2 s2 e2 (ringC ρ 1) t3 s3 e3))) (κ := [10, 11, 16]) (v := ag [lA false n1, lB true n2, (sl 16 0 1 1)]) (len := 17) (bl := [some (cellA false cs1 n1), some (cellA true cs2 n2), some (.cells (ringC ρ 1) 103 4 false)]) (by kernel_rfl) (by kernel_rfl)
  simp only [List.map_cons, List.map_nil, List.cons.injEq, and_true] at hb
  obtain ⟨h5, h6, h7⟩ := hb
  obtain ⟨x1, q1⟩ := cellA_eq g1.2.2.1 g1.2.2.2
  obtain ⟨x2, q2⟩ := cellA_eq g2.2.2.1 g2.2.2.2
  rw [q1] at h5
  rw [q2] at h6
  refine ⟨_, H', execO_sound (C := (CJ false true cs1 cs2 (ringC ρ 1) t1 s1 t2 s2 t3 s3 e1 e2 e3 n1 c1 n2 c2 1)) tsG0 (ls12_ft f1 f2 (ringC_flat ρ 1) g1 g2) 60 _ _ hs, hl, ⟨10, 11, ⟨?_, ⟨x1, h5⟩, ⟨x2, h6⟩, by decide⟩, by decide⟩, h7⟩
  rw [lA_eq g1.2.2.2, lB_eq g2.2.2.2]; rfl
theorem cp_1_tf (g1 : n1 ≤ c1 ∧ n1 ≤ 1000000 ∧ cs1.length = n1 ∧ decide (n1 = 0) = true) (g2 : n2 ≤ c2 ∧ n2 ≤ 1000000 ∧ cs2.length = n2 ∧ decide (n2 = 0) = false) (f1 : cs1.all Ex.flat = true) (f2 : cs2.all Ex.flat = true) :
    ∃ v H', Sound Tryd.prog 7 (.call Fn.law03_blade ⟨[blV n1 c1 n2 c2 (sl 6 0 1 1)]⟩ (hpB cs1 t1 s1 e1 cs2 t2 s2 e2 (ringC ρ 1) t3 s3 e3)) (.val v H') ∧ H'.length = 17 ∧ (∃ kA kB, Cop H' v cs1 cs2 n1 n2 (sl 16 0 1 1) kA kB ∧ kB < 13) ∧ H'[16]? = some (.cells (ringC ρ 1) 103 4 false) := by
  obtain ⟨H', hs, hl, hb⟩ := seen_sel (o := execO Tryd.prog 7 (CJ true false cs1 cs2 (ringC ρ 1) t1 s1 t2 s2 t3 s3 e1 e2 e3 n1 c1 n2 c2 1) 60 (.call Fn.law03_blade ⟨[blV n1 c1 n2 c2 (sl 6 0 1 1)]⟩ (hpB cs1 t1 s1 e1 cs2 t2 s2 e2 (ringC ρ 1) t3 s3 e3))) (κ := [9, 12, 16]) (v := ag [lA true n1, lB false n2, (sl 16 0 1 1)]) (len := 17) (bl := [some (cellA true cs1 n1), some (cellA false cs2 n2), some (.cells (ringC ρ 1) 103 4 false)]) (by kernel_rfl) (by kernel_rfl)
  simp only [List.map_cons, List.map_nil, List.cons.injEq, and_true] at hb
  obtain ⟨h5, h6, h7⟩ := hb
  obtain ⟨x1, q1⟩ := cellA_eq g1.2.2.1 g1.2.2.2
  obtain ⟨x2, q2⟩ := cellA_eq g2.2.2.1 g2.2.2.2
  rw [q1] at h5
  rw [q2] at h6
  refine ⟨_, H', execO_sound (C := (CJ true false cs1 cs2 (ringC ρ 1) t1 s1 t2 s2 t3 s3 e1 e2 e3 n1 c1 n2 c2 1)) tsG0 (ls12_tf f1 f2 (ringC_flat ρ 1) g1 g2) 60 _ _ hs, hl, ⟨9, 12, ⟨?_, ⟨x1, h5⟩, ⟨x2, h6⟩, by decide⟩, by decide⟩, h7⟩
  rw [lA_eq g1.2.2.2, lB_eq g2.2.2.2]; rfl
theorem cp_1_tt (g1 : n1 ≤ c1 ∧ n1 ≤ 1000000 ∧ cs1.length = n1 ∧ decide (n1 = 0) = true) (g2 : n2 ≤ c2 ∧ n2 ≤ 1000000 ∧ cs2.length = n2 ∧ decide (n2 = 0) = true) (f1 : cs1.all Ex.flat = true) (f2 : cs2.all Ex.flat = true) :
    ∃ v H', Sound Tryd.prog 7 (.call Fn.law03_blade ⟨[blV n1 c1 n2 c2 (sl 6 0 1 1)]⟩ (hpB cs1 t1 s1 e1 cs2 t2 s2 e2 (ringC ρ 1) t3 s3 e3)) (.val v H') ∧ H'.length = 17 ∧ (∃ kA kB, Cop H' v cs1 cs2 n1 n2 (sl 16 0 1 1) kA kB ∧ kB < 13) ∧ H'[16]? = some (.cells (ringC ρ 1) 103 4 false) := by
  obtain ⟨H', hs, hl, hb⟩ := seen_sel (o := execO Tryd.prog 7 (CJ true true cs1 cs2 (ringC ρ 1) t1 s1 t2 s2 t3 s3 e1 e2 e3 n1 c1 n2 c2 1) 60 (.call Fn.law03_blade ⟨[blV n1 c1 n2 c2 (sl 6 0 1 1)]⟩ (hpB cs1 t1 s1 e1 cs2 t2 s2 e2 (ringC ρ 1) t3 s3 e3))) (κ := [9, 11, 16]) (v := ag [lA true n1, lB true n2, (sl 16 0 1 1)]) (len := 17) (bl := [some (cellA true cs1 n1), some (cellA true cs2 n2), some (.cells (ringC ρ 1) 103 4 false)]) (by kernel_rfl) (by kernel_rfl)
  simp only [List.map_cons, List.map_nil, List.cons.injEq, and_true] at hb
  obtain ⟨h5, h6, h7⟩ := hb
  obtain ⟨x1, q1⟩ := cellA_eq g1.2.2.1 g1.2.2.2
  obtain ⟨x2, q2⟩ := cellA_eq g2.2.2.1 g2.2.2.2
  rw [q1] at h5
  rw [q2] at h6
  refine ⟨_, H', execO_sound (C := (CJ true true cs1 cs2 (ringC ρ 1) t1 s1 t2 s2 t3 s3 e1 e2 e3 n1 c1 n2 c2 1)) tsG0 (ls12_tt f1 f2 (ringC_flat ρ 1) g1 g2) 60 _ _ hs, hl, ⟨9, 11, ⟨?_, ⟨x1, h5⟩, ⟨x2, h6⟩, by decide⟩, by decide⟩, h7⟩
  rw [lA_eq g1.2.2.2, lB_eq g2.2.2.2]; rfl
theorem cp_2_ff (g1 : n1 ≤ c1 ∧ n1 ≤ 1000000 ∧ cs1.length = n1 ∧ decide (n1 = 0) = false) (g2 : n2 ≤ c2 ∧ n2 ≤ 1000000 ∧ cs2.length = n2 ∧ decide (n2 = 0) = false) (f1 : cs1.all Ex.flat = true) (f2 : cs2.all Ex.flat = true) :
    ∃ v H', Sound Tryd.prog 7 (.call Fn.law03_blade ⟨[blV n1 c1 n2 c2 (sl 6 0 2 2)]⟩ (hpB cs1 t1 s1 e1 cs2 t2 s2 e2 (ringC ρ 2) t3 s3 e3)) (.val v H') ∧ H'.length = 20 ∧ (∃ kA kB, Cop H' v cs1 cs2 n1 n2 (sl 19 0 2 2) kA kB ∧ kB < 13) ∧ H'[19]? = some (.cells (ringC ρ 2) 103 4 false) := by
  obtain ⟨H', hs, hl, hb⟩ := seen_sel (o := execO Tryd.prog 7 (CJ false false cs1 cs2 (ringC ρ 2) t1 s1 t2 s2 t3 s3 e1 e2 e3 n1 c1 n2 c2 2) 60 (.call Fn.law03_blade ⟨[blV n1 c1 n2 c2 (sl 6 0 2 2)]⟩ (hpB cs1 t1 s1 e1 cs2 t2 s2 e2 (ringC ρ 2) t3 s3 e3))) (κ := [10, 12, 19]) (v := ag [lA false n1, lB false n2, (sl 19 0 2 2)]) (len := 20) (bl := [some (cellA false cs1 n1), some (cellA false cs2 n2), some (.cells (ringC ρ 2) 103 4 false)]) (by kernel_rfl) (by kernel_rfl)
  simp only [List.map_cons, List.map_nil, List.cons.injEq, and_true] at hb
  obtain ⟨h5, h6, h7⟩ := hb
  obtain ⟨x1, q1⟩ := cellA_eq g1.2.2.1 g1.2.2.2
  obtain ⟨x2, q2⟩ := cellA_eq g2.2.2.1 g2.2.2.2
  rw [q1] at h5
  rw [q2] at h6
  refine ⟨_, H', execO_sound (C := (CJ false false cs1 cs2 (ringC ρ 2) t1 s1 t2 s2 t3 s3 e1 e2 e3 n1 c1 n2 c2 2)) tsG0 (ls12_ff f1 f2 (ringC_flat ρ 2) g1 g2) 60 _ _ hs, hl, ⟨10, 12, ⟨?_, ⟨x1, h5⟩, ⟨x2, h6⟩, by decide⟩, by decide⟩, h7⟩
  rw [lA_eq g1.2.2.2, lB_eq g2.2.2.2]; rfl
theorem cp_2_ft (g1 : n1 ≤ c1 ∧ n1 ≤ 1000000 ∧ cs1.length = n1 ∧ decide (n1 = 0) = false) (g2 : n2 ≤ c2 ∧ n2 ≤ 1000000 ∧ cs2.length = n2 ∧ decide (n2 = 0) = true) (f1 : cs1.all Ex.flat = true) (f2 : cs2.all Ex.flat = true) :
    ∃ v H', Sound Tryd.prog 7 (.call Fn.law03_blade ⟨[blV n1 c1 n2 c2 (sl 6 0 2 2)]⟩ (hpB cs1 t1 s1 e1 cs2 t2 s2 e2 (ringC ρ 2) t3 s3 e3)) (.val v H') ∧ H'.length = 20 ∧ (∃ kA kB, Cop H' v cs1 cs2 n1 n2 (sl 19 0 2 2) kA kB ∧ kB < 13) ∧ H'[19]? = some (.cells (ringC ρ 2) 103 4 false) := by
  obtain ⟨H', hs, hl, hb⟩ := seen_sel (o := execO Tryd.prog 7 (CJ false true cs1 cs2 (ringC ρ 2) t1 s1 t2 s2 t3 s3 e1 e2 e3 n1 c1 n2 c2 2) 60 (.call Fn.law03_blade ⟨[blV n1 c1 n2 c2 (sl 6 0 2 2)]⟩ (hpB cs1 t1 s1 e1 cs2 t2 s2 e2 (ringC ρ 2) t3 s3 e3))) (κ := [10, 11, 19]) (v := ag [lA false n1, lB true n2, (sl 19 0 2 2)]) (len := 20) (bl := [some (cellA false cs1 n1), some (cellA true cs2 n2), some (.cells (ringC ρ 2) 103 4 false)]) (by kernel_rfl) (by kernel_rfl)
  simp only [List.map_cons, List.map_nil, List.cons.injEq, and_true] at hb
  obtain ⟨h5, h6, h7⟩ := hb
  obtain ⟨x1, q1⟩ := cellA_eq g1.2.2.1 g1.2.2.2
  obtain ⟨x2, q2⟩ := cellA_eq g2.2.2.1 g2.2.2.2
  rw [q1] at h5
  rw [q2] at h6
  refine ⟨_, H', execO_sound (C := (CJ false true cs1 cs2 (ringC ρ 2) t1 s1 t2 s2 t3 s3 e1 e2 e3 n1 c1 n2 c2 2)) tsG0 (ls12_ft f1 f2 (ringC_flat ρ 2) g1 g2) 60 _ _ hs, hl, ⟨10, 11, ⟨?_, ⟨x1, h5⟩, ⟨x2, h6⟩, by decide⟩, by decide⟩, h7⟩
  rw [lA_eq g1.2.2.2, lB_eq g2.2.2.2]; rfl
theorem cp_2_tf (g1 : n1 ≤ c1 ∧ n1 ≤ 1000000 ∧ cs1.length = n1 ∧ decide (n1 = 0) = true) (g2 : n2 ≤ c2 ∧ n2 ≤ 1000000 ∧ cs2.length = n2 ∧ decide (n2 = 0) = false) (f1 : cs1.all Ex.flat = true) (f2 : cs2.all Ex.flat = true) :
    ∃ v H', Sound Tryd.prog 7 (.call Fn.law03_blade ⟨[blV n1 c1 n2 c2 (sl 6 0 2 2)]⟩ (hpB cs1 t1 s1 e1 cs2 t2 s2 e2 (ringC ρ 2) t3 s3 e3)) (.val v H') ∧ H'.length = 20 ∧ (∃ kA kB, Cop H' v cs1 cs2 n1 n2 (sl 19 0 2 2) kA kB ∧ kB < 13) ∧ H'[19]? = some (.cells (ringC ρ 2) 103 4 false) := by
  obtain ⟨H', hs, hl, hb⟩ := seen_sel (o := execO Tryd.prog 7 (CJ true false cs1 cs2 (ringC ρ 2) t1 s1 t2 s2 t3 s3 e1 e2 e3 n1 c1 n2 c2 2) 60 (.call Fn.law03_blade ⟨[blV n1 c1 n2 c2 (sl 6 0 2 2)]⟩ (hpB cs1 t1 s1 e1 cs2 t2 s2 e2 (ringC ρ 2) t3 s3 e3))) (κ := [9, 12, 19]) (v := ag [lA true n1, lB false n2, (sl 19 0 2 2)]) (len := 20) (bl := [some (cellA true cs1 n1), some (cellA false cs2 n2), some (.cells (ringC ρ 2) 103 4 false)]) (by kernel_rfl) (by kernel_rfl)
  simp only [List.map_cons, List.map_nil, List.cons.injEq, and_true] at hb
  obtain ⟨h5, h6, h7⟩ := hb
  obtain ⟨x1, q1⟩ := cellA_eq g1.2.2.1 g1.2.2.2
  obtain ⟨x2, q2⟩ := cellA_eq g2.2.2.1 g2.2.2.2
  rw [q1] at h5
  rw [q2] at h6
  refine ⟨_, H', execO_sound (C := (CJ true false cs1 cs2 (ringC ρ 2) t1 s1 t2 s2 t3 s3 e1 e2 e3 n1 c1 n2 c2 2)) tsG0 (ls12_tf f1 f2 (ringC_flat ρ 2) g1 g2) 60 _ _ hs, hl, ⟨9, 12, ⟨?_, ⟨x1, h5⟩, ⟨x2, h6⟩, by decide⟩, by decide⟩, h7⟩
  rw [lA_eq g1.2.2.2, lB_eq g2.2.2.2]; rfl
theorem cp_2_tt (g1 : n1 ≤ c1 ∧ n1 ≤ 1000000 ∧ cs1.length = n1 ∧ decide (n1 = 0) = true) (g2 : n2 ≤ c2 ∧ n2 ≤ 1000000 ∧ cs2.length = n2 ∧ decide (n2 = 0) = true) (f1 : cs1.all Ex.flat = true) (f2 : cs2.all Ex.flat = true) :
    ∃ v H', Sound Tryd.prog 7 (.call Fn.law03_blade ⟨[blV n1 c1 n2 c2 (sl 6 0 2 2)]⟩ (hpB cs1 t1 s1 e1 cs2 t2 s2 e2 (ringC ρ 2) t3 s3 e3)) (.val v H') ∧ H'.length = 20 ∧ (∃ kA kB, Cop H' v cs1 cs2 n1 n2 (sl 19 0 2 2) kA kB ∧ kB < 13) ∧ H'[19]? = some (.cells (ringC ρ 2) 103 4 false) := by
  obtain ⟨H', hs, hl, hb⟩ := seen_sel (o := execO Tryd.prog 7 (CJ true true cs1 cs2 (ringC ρ 2) t1 s1 t2 s2 t3 s3 e1 e2 e3 n1 c1 n2 c2 2) 60 (.call Fn.law03_blade ⟨[blV n1 c1 n2 c2 (sl 6 0 2 2)]⟩ (hpB cs1 t1 s1 e1 cs2 t2 s2 e2 (ringC ρ 2) t3 s3 e3))) (κ := [9, 11, 19]) (v := ag [lA true n1, lB true n2, (sl 19 0 2 2)]) (len := 20) (bl := [some (cellA true cs1 n1), some (cellA true cs2 n2), some (.cells (ringC ρ 2) 103 4 false)]) (by kernel_rfl) (by kernel_rfl)
  simp only [List.map_cons, List.map_nil, List.cons.injEq, and_true] at hb
  obtain ⟨h5, h6, h7⟩ := hb
  obtain ⟨x1, q1⟩ := cellA_eq g1.2.2.1 g1.2.2.2
  obtain ⟨x2, q2⟩ := cellA_eq g2.2.2.1 g2.2.2.2
  rw [q1] at h5
  rw [q2] at h6
  refine ⟨_, H', execO_sound (C := (CJ true true cs1 cs2 (ringC ρ 2) t1 s1 t2 s2 t3 s3 e1 e2 e3 n1 c1 n2 c2 2)) tsG0 (ls12_tt f1 f2 (ringC_flat ρ 2) g1 g2) 60 _ _ hs, hl, ⟨9, 11, ⟨?_, ⟨x1, h5⟩, ⟨x2, h6⟩, by decide⟩, by decide⟩, h7⟩
  rw [lA_eq g1.2.2.2, lB_eq g2.2.2.2]; rfl
theorem cp_3_ff (g1 : n1 ≤ c1 ∧ n1 ≤ 1000000 ∧ cs1.length = n1 ∧ decide (n1 = 0) = false) (g2 : n2 ≤ c2 ∧ n2 ≤ 1000000 ∧ cs2.length = n2 ∧ decide (n2 = 0) = false) (f1 : cs1.all Ex.flat = true) (f2 : cs2.all Ex.flat = true) :
    ∃ v H', Sound Tryd.prog 7 (.call Fn.law03_blade ⟨[blV n1 c1 n2 c2 (sl 6 0 3 3)]⟩ (hpB cs1 t1 s1 e1 cs2 t2 s2 e2 (ringC ρ 3) t3 s3 e3)) (.val v H') ∧ H'.length = 23 ∧ (∃ kA kB, Cop H' v cs1 cs2 n1 n2 (sl 22 0 3 3) kA kB ∧ kB < 13) ∧ H'[22]? = some (.cells (ringC ρ 3) 103 4 false) := by
  obtain ⟨H', hs, hl, hb⟩ := seen_sel (o := execO Tryd.prog 7 (CJ false false cs1 cs2 (ringC ρ 3) t1 s1 t2 s2 t3 s3 e1 e2 e3 n1 c1 n2 c2 3) 60 (.call Fn.law03_blade ⟨[blV n1 c1 n2 c2 (sl 6 0 3 3)]⟩ (hpB cs1 t1 s1 e1 cs2 t2 s2 e2 (ringC ρ 3) t3 s3 e3))) (κ := [10, 12, 22]) (v := ag [lA false n1, lB false n2, (sl 22 0 3 3)]) (len := 23) (bl := [some (cellA false cs1 n1), some (cellA false cs2 n2), some (.cells (ringC ρ 3) 103 4 false)]) (by kernel_rfl) (by kernel_rfl)
  simp only [List.map_cons, List.map_nil, List.cons.injEq, and_true] at hb
  obtain ⟨h5, h6, h7⟩ := hb
  obtain ⟨x1, q1⟩ := cellA_eq g1.2.2.1 g1.2.2.2
  obtain ⟨x2, q2⟩ := cellA_eq g2.2.2.1 g2.2.2.2
  rw [q1] at h5
  rw [q2] at h6
  refine ⟨_, H', execO_sound (C := (CJ false false cs1 cs2 (ringC ρ 3) t1 s1 t2 s2 t3 s3 e1 e2 e3 n1 c1 n2 c2 3)) tsG0 (ls12_ff f1 f2 (ringC_flat ρ 3) g1 g2) 60 _ _ hs, hl, ⟨10, 12, ⟨?_, ⟨x1, h5⟩, ⟨x2, h6⟩, by decide⟩, by decide⟩, h7⟩
  rw [lA_eq g1.2.2.2, lB_eq g2.2.2.2]; rfl
theorem cp_3_ft (g1 : n1 ≤ c1 ∧ n1 ≤ 1000000 ∧ cs1.length = n1 ∧ decide (n1 = 0) = false) (g2 : n2 ≤ c2 ∧ n2 ≤ 1000000 ∧ cs2.length = n2 ∧ decide (n2 = 0) = true) (f1 : cs1.all Ex.flat = true) (f2 : cs2.all Ex.flat = true) :
    ∃ v H', Sound Tryd.prog 7 (.call Fn.law03_blade ⟨[blV n1 c1 n2 c2 (sl 6 0 3 3)]⟩ (hpB cs1 t1 s1 e1 cs2 t2 s2 e2 (ringC ρ 3) t3 s3 e3)) (.val v H') ∧ H'.length = 23 ∧ (∃ kA kB, Cop H' v cs1 cs2 n1 n2 (sl 22 0 3 3) kA kB ∧ kB < 13) ∧ H'[22]? = some (.cells (ringC ρ 3) 103 4 false) := by
  obtain ⟨H', hs, hl, hb⟩ := seen_sel (o := execO Tryd.prog 7 (CJ false true cs1 cs2 (ringC ρ 3) t1 s1 t2 s2 t3 s3 e1 e2 e3 n1 c1 n2 c2 3) 60 (.call Fn.law03_blade ⟨[blV n1 c1 n2 c2 (sl 6 0 3 3)]⟩ (hpB cs1 t1 s1 e1 cs2 t2 s2 e2 (ringC ρ 3) t3 s3 e3))) (κ := [10, 11, 22]) (v := ag [lA false n1, lB true n2, (sl 22 0 3 3)]) (len := 23) (bl := [some (cellA false cs1 n1), some (cellA true cs2 n2), some (.cells (ringC ρ 3) 103 4 false)]) (by kernel_rfl) (by kernel_rfl)
  simp only [List.map_cons, List.map_nil, List.cons.injEq, and_true] at hb
  obtain ⟨h5, h6, h7⟩ := hb
  obtain ⟨x1, q1⟩ := cellA_eq g1.2.2.1 g1.2.2.2
  obtain ⟨x2, q2⟩ := cellA_eq g2.2.2.1 g2.2.2.2
  rw [q1] at h5
  rw [q2] at h6
  refine ⟨_, H', execO_sound (C := (CJ false true cs1 cs2 (ringC ρ 3) t1 s1 t2 s2 t3 s3 e1 e2 e3 n1 c1 n2 c2 3)) tsG0 (ls12_ft f1 f2 (ringC_flat ρ 3) g1 g2) 60 _ _ hs, hl, ⟨10, 11, ⟨?_, ⟨x1, h5⟩, ⟨x2, h6⟩, by decide⟩, by decide⟩, h7⟩
  rw [lA_eq g1.2.2.2, lB_eq g2.2.2.2]; rfl
theorem cp_3_tf (g1 : n1 ≤ c1 ∧ n1 ≤ 1000000 ∧ cs1.length = n1 ∧ decide (n1 = 0) = true) (g2 : n2 ≤ c2 ∧ n2 ≤ 1000000 ∧ cs2.length = n2 ∧ decide (n2 = 0) = false) (f1 : cs1.all Ex.flat = true) (f2 : cs2.all Ex.flat = true) :
    ∃ v H', Sound Tryd.prog 7 (.call Fn.law03_blade ⟨[blV n1 c1 n2 c2 (sl 6 0 3 3)]⟩ (hpB cs1 t1 s1 e1 cs2 t2 s2 e2 (ringC ρ 3) t3 s3 e3)) (.val v H') ∧ H'.length = 23 ∧ (∃ kA kB, Cop H' v cs1 cs2 n1 n2 (sl 22 0 3 3) kA kB ∧ kB < 13) ∧ H'[22]? = some (.cells (ringC ρ 3) 103 4 false) := by
  obtain ⟨H', hs, hl, hb⟩ := seen_sel (o := execO Tryd.prog 7 (CJ true false cs1 cs2 (ringC ρ 3) t1 s1 t2 s2 t3 s3 e1 e2 e3 n1 c1 n2 c2 3) 60 (.call Fn.law03_blade ⟨[blV n1 c1 n2 c2 (sl 6 0 3 3)]⟩ (hpB cs1 t1 s1 e1 cs2 t2 s2 e2 (ringC ρ 3) t3 s3 e3))) (κ := [9, 12, 22]) (v := ag [lA true n1, lB false n2, (sl 22 0 3 3)]) (len := 23) (bl := [some (cellA true cs1 n1), some (cellA false cs2 n2), some (.cells (ringC ρ 3) 103 4 false)]) (by kernel_rfl) (by kernel_rfl)
  simp only [List.map_cons, List.map_nil, List.cons.injEq, and_true] at hb
  obtain ⟨h5, h6, h7⟩ := hb
  obtain ⟨x1, q1⟩ := cellA_eq g1.2.2.1 g1.2.2.2
  obtain ⟨x2, q2⟩ := cellA_eq g2.2.2.1 g2.2.2.2
  rw [q1] at h5
  rw [q2] at h6
  refine ⟨_, H', execO_sound (C := (CJ true false cs1 cs2 (ringC ρ 3) t1 s1 t2 s2 t3 s3 e1 e2 e3 n1 c1 n2 c2 3)) tsG0 (ls12_tf f1 f2 (ringC_flat ρ 3) g1 g2) 60 _ _ hs, hl, ⟨9, 12, ⟨?_, ⟨x1, h5⟩, ⟨x2, h6⟩, by decide⟩, by decide⟩, h7⟩
  rw [lA_eq g1.2.2.2, lB_eq g2.2.2.2]; rfl
theorem cp_3_tt (g1 : n1 ≤ c1 ∧ n1 ≤ 1000000 ∧ cs1.length = n1 ∧ decide (n1 = 0) = true) (g2 : n2 ≤ c2 ∧ n2 ≤ 1000000 ∧ cs2.length = n2 ∧ decide (n2 = 0) = true) (f1 : cs1.all Ex.flat = true) (f2 : cs2.all Ex.flat = true) :
    ∃ v H', Sound Tryd.prog 7 (.call Fn.law03_blade ⟨[blV n1 c1 n2 c2 (sl 6 0 3 3)]⟩ (hpB cs1 t1 s1 e1 cs2 t2 s2 e2 (ringC ρ 3) t3 s3 e3)) (.val v H') ∧ H'.length = 23 ∧ (∃ kA kB, Cop H' v cs1 cs2 n1 n2 (sl 22 0 3 3) kA kB ∧ kB < 13) ∧ H'[22]? = some (.cells (ringC ρ 3) 103 4 false) := by
  obtain ⟨H', hs, hl, hb⟩ := seen_sel (o := execO Tryd.prog 7 (CJ true true cs1 cs2 (ringC ρ 3) t1 s1 t2 s2 t3 s3 e1 e2 e3 n1 c1 n2 c2 3) 60 (.call Fn.law03_blade ⟨[blV n1 c1 n2 c2 (sl 6 0 3 3)]⟩ (hpB cs1 t1 s1 e1 cs2 t2 s2 e2 (ringC ρ 3) t3 s3 e3))) (κ := [9, 11, 22]) (v := ag [lA true n1, lB true n2, (sl 22 0 3 3)]) (len := 23) (bl := [some (cellA true cs1 n1), some (cellA true cs2 n2), some (.cells (ringC ρ 3) 103 4 false)]) (by kernel_rfl) (by kernel_rfl)
  simp only [List.map_cons, List.map_nil, List.cons.injEq, and_true] at hb
  obtain ⟨h5, h6, h7⟩ := hb
  obtain ⟨x1, q1⟩ := cellA_eq g1.2.2.1 g1.2.2.2
  obtain ⟨x2, q2⟩ := cellA_eq g2.2.2.1 g2.2.2.2
  rw [q1] at h5
  rw [q2] at h6
  refine ⟨_, H', execO_sound (C := (CJ true true cs1 cs2 (ringC ρ 3) t1 s1 t2 s2 t3 s3 e1 e2 e3 n1 c1 n2 c2 3)) tsG0 (ls12_tt f1 f2 (ringC_flat ρ 3) g1 g2) 60 _ _ hs, hl, ⟨9, 11, ⟨?_, ⟨x1, h5⟩, ⟨x2, h6⟩, by decide⟩, by decide⟩, h7⟩
  rw [lA_eq g1.2.2.2, lB_eq g2.2.2.2]; rfl
theorem cp_17_ff (g1 : n1 ≤ c1 ∧ n1 ≤ 1000000 ∧ cs1.length = n1 ∧ decide (n1 = 0) = false) (g2 : n2 ≤ c2 ∧ n2 ≤ 1000000 ∧ cs2.length = n2 ∧ decide (n2 = 0) = false) (f1 : cs1.all Ex.flat = true) (f2 : cs2.all Ex.flat = true) :
    ∃ v H', Sound Tryd.prog 7 (.call Fn.law03_blade ⟨[blV n1 c1 n2 c2 (sl 6 0 17 17)]⟩ (hpB cs1 t1 s1 e1 cs2 t2 s2 e2 (ringC ρ 17) t3 s3 e3)) (.val v H') ∧ H'.length = 65 ∧ (∃ kA kB, Cop H' v cs1 cs2 n1 n2 (sl 64 0 17 17) kA kB ∧ kB < 13) ∧ H'[64]? = some (.cells (ringC ρ 17) 103 4 false) := by
  obtain ⟨H', hs, hl, hb⟩ := seen_sel (o := execO Tryd.prog 7 (CJ false false cs1 cs2 (ringC ρ 17) t1 s1 t2 s2 t3 s3 e1 e2 e3 n1 c1 n2 c2 17) 60 (.call Fn.law03_blade ⟨[blV n1 c1 n2 c2 (sl 6 0 17 17)]⟩ (hpB cs1 t1 s1 e1 cs2 t2 s2 e2 (ringC ρ 17) t3 s3 e3))) (κ := [10, 12, 64]) (v := ag [lA false n1, lB false n2, (sl 64 0 17 17)]) (len := 65) (bl := [some (cellA false cs1 n1), some (cellA false cs2 n2), some (.cells (ringC ρ 17) 103 4 false)]) (by kernel_rfl) (by kernel_rfl)
  simp only [List.map_cons, List.map_nil, List.cons.injEq, and_true] at hb
  obtain ⟨h5, h6, h7⟩ := hb
  obtain ⟨x1, q1⟩ := cellA_eq g1.2.2.1 g1.2.2.2
  obtain ⟨x2, q2⟩ := cellA_eq g2.2.2.1 g2.2.2.2
  rw [q1] at h5
  rw [q2] at h6
  refine ⟨_, H', execO_sound (C := (CJ false false cs1 cs2 (ringC ρ 17) t1 s1 t2 s2 t3 s3 e1 e2 e3 n1 c1 n2 c2 17)) tsG0 (ls12_ff f1 f2 (ringC_flat ρ 17) g1 g2) 60 _ _ hs, hl, ⟨10, 12, ⟨?_, ⟨x1, h5⟩, ⟨x2, h6⟩, by decide⟩, by decide⟩, h7⟩
  rw [lA_eq g1.2.2.2, lB_eq g2.2.2.2]; rfl
theorem cp_17_ft (g1 : n1 ≤ c1 ∧ n1 ≤ 1000000 ∧ cs1.length = n1 ∧ decide (n1 = 0) = false) (g2 : n2 ≤ c2 ∧ n2 ≤ 1000000 ∧ cs2.length = n2 ∧ decide (n2 = 0) = true) (f1 : cs1.all Ex.flat = true) (f2 : cs2.all Ex.flat = true) :
    ∃ v H', Sound Tryd.prog 7 (.call Fn.law03_blade ⟨[blV n1 c1 n2 c2 (sl 6 0 17 17)]⟩ (hpB cs1 t1 s1 e1 cs2 t2 s2 e2 (ringC ρ 17) t3 s3 e3)) (.val v H') ∧ H'.length = 65 ∧ (∃ kA kB, Cop H' v cs1 cs2 n1 n2 (sl 64 0 17 17) kA kB ∧ kB < 13) ∧ H'[64]? = some (.cells (ringC ρ 17) 103 4 false) := by
  obtain ⟨H', hs, hl, hb⟩ := seen_sel (o := execO Tryd.prog 7 (CJ false true cs1 cs2 (ringC ρ 17) t1 s1 t2 s2 t3 s3 e1 e2 e3 n1 c1 n2 c2 17) 60 (.call Fn.law03_blade ⟨[blV n1 c1 n2 c2 (sl 6 0 17 17)]⟩ (hpB cs1 t1 s1 e1 cs2 t2 s2 e2 (ringC ρ 17) t3 s3 e3))) (κ := [10, 11, 64]) (v := ag [lA false n1, lB true n2, (sl 64 0 17 17)]) (len := 65) (bl := [some (cellA false cs1 n1), some (cellA true cs2 n2), some (.cells (ringC ρ 17) 103 4 false)]) (by kernel_rfl) (by kernel_rfl)
  simp only [List.map_cons, List.map_nil, List.cons.injEq, and_true] at hb
  obtain ⟨h5, h6, h7⟩ := hb
  obtain ⟨x1, q1⟩ := cellA_eq g1.2.2.1 g1.2.2.2
  obtain ⟨x2, q2⟩ := cellA_eq g2.2.2.1 g2.2.2.2
  rw [q1] at h5
  rw [q2] at h6
  refine ⟨_, H', execO_sound (C := (CJ false true cs1 cs2 (ringC ρ 17) t1 s1 t2 s2 t3 s3 e1 e2 e3 n1 c1 n2 c2 17)) tsG0 (ls12_ft f1 f2 (ringC_flat ρ 17) g1 g2) 60 _ _ hs, hl, ⟨10, 11, ⟨?_, ⟨x1, h5⟩, ⟨x2, h6⟩, by decide⟩, by decide⟩, h7⟩
  rw [lA_eq g1.2.2.2, lB_eq g2.2.2.2]; rfl
theorem cp_17_tf (g1 : n1 ≤ c1 ∧ n1 ≤ 1000000 ∧ cs1.length = n1 ∧ decide (n1 = 0) = true) (g2 : n2 ≤ c2 ∧ n2 ≤ 1000000 ∧ cs2.length = n2 ∧ decide (n2 = 0) = false) (f1 : cs1.all Ex.flat = true) (f2 : cs2.all Ex.flat = true) :
    ∃ v H', Sound Tryd.prog 7 (.call Fn.law03_blade ⟨[blV n1 c1 n2 c2 (sl 6 0 17 17)]⟩ (hpB cs1 t1 s1 e1 cs2 t2 s2 e2 (ringC ρ 17) t3 s3 e3)) (.val v H') ∧ H'.length = 65 ∧ (∃ kA kB, Cop H' v cs1 cs2 n1 n2 (sl 64 0 17 17) kA kB ∧ kB < 13) ∧ H'[64]? = some (.cells (ringC ρ 17) 103 4 false) := by
  obtain ⟨H', hs, hl, hb⟩ := seen_sel (o := execO Tryd.prog 7 (CJ true false cs1 cs2 (ringC ρ 17) t1 s1 t2 s2 t3 s3 e1 e2 e3 n1 c1 n2 c2 17) 60 (.call Fn.law03_blade ⟨[blV n1 c1 n2 c2 (sl 6 0 17 17)]⟩ (hpB cs1 t1 s1 e1 cs2 t2 s2 e2 (ringC ρ 17) t3 s3 e3))) (κ := [9, 12, 64]) (v := ag [lA true n1, lB false n2, (sl 64 0 17 17)]) (len := 65) (bl := [some (cellA true cs1 n1), some (cellA false cs2 n2), some (.cells (ringC ρ 17) 103 4 false)]) (by kernel_rfl) (by kernel_rfl)
  simp only [List.map_cons, List.map_nil, List.cons.injEq, and_true] at hb
  obtain ⟨h5, h6, h7⟩ := hb
  obtain ⟨x1, q1⟩ := cellA_eq g1.2.2.1 g1.2.2.2
  obtain ⟨x2, q2⟩ := cellA_eq g2.2.2.1 g2.2.2.2
  rw [q1] at h5
  rw [q2] at h6
  refine ⟨_, H', execO_sound (C := (CJ true false cs1 cs2 (ringC ρ 17) t1 s1 t2 s2 t3 s3 e1 e2 e3 n1 c1 n2 c2 17)) tsG0 (ls12_tf f1 f2 (ringC_flat ρ 17) g1 g2) 60 _ _ hs, hl, ⟨9, 12, ⟨?_, ⟨x1, h5⟩, ⟨x2, h6⟩, by decide⟩, by decide⟩, h7⟩
  rw [lA_eq g1.2.2.2, lB_eq g2.2.2.2]; rfl
theorem cp_17_tt (g1 : n1 ≤ c1 ∧ n1 ≤ 1000000 ∧ cs1.length = n1 ∧ decide (n1 = 0) = true) (g2 : n2 ≤ c2 ∧ n2 ≤ 1000000 ∧ cs2.length = n2 ∧ decide (n2 = 0) = true) (f1 : cs1.all Ex.flat = true) (f2 : cs2.all Ex.flat = true) :
    ∃ v H', Sound Tryd.prog 7 (.call Fn.law03_blade ⟨[blV n1 c1 n2 c2 (sl 6 0 17 17)]⟩ (hpB cs1 t1 s1 e1 cs2 t2 s2 e2 (ringC ρ 17) t3 s3 e3)) (.val v H') ∧ H'.length = 65 ∧ (∃ kA kB, Cop H' v cs1 cs2 n1 n2 (sl 64 0 17 17) kA kB ∧ kB < 13) ∧ H'[64]? = some (.cells (ringC ρ 17) 103 4 false) := by
  obtain ⟨H', hs, hl, hb⟩ := seen_sel (o := execO Tryd.prog 7 (CJ true true cs1 cs2 (ringC ρ 17) t1 s1 t2 s2 t3 s3 e1 e2 e3 n1 c1 n2 c2 17) 60 (.call Fn.law03_blade ⟨[blV n1 c1 n2 c2 (sl 6 0 17 17)]⟩ (hpB cs1 t1 s1 e1 cs2 t2 s2 e2 (ringC ρ 17) t3 s3 e3))) (κ := [9, 11, 64]) (v := ag [lA true n1, lB true n2, (sl 64 0 17 17)]) (len := 65) (bl := [some (cellA true cs1 n1), some (cellA true cs2 n2), some (.cells (ringC ρ 17) 103 4 false)]) (by kernel_rfl) (by kernel_rfl)
  simp only [List.map_cons, List.map_nil, List.cons.injEq, and_true] at hb
  obtain ⟨h5, h6, h7⟩ := hb
  obtain ⟨x1, q1⟩ := cellA_eq g1.2.2.1 g1.2.2.2
  obtain ⟨x2, q2⟩ := cellA_eq g2.2.2.1 g2.2.2.2
  rw [q1] at h5
  rw [q2] at h6
  refine ⟨_, H', execO_sound (C := (CJ true true cs1 cs2 (ringC ρ 17) t1 s1 t2 s2 t3 s3 e1 e2 e3 n1 c1 n2 c2 17)) tsG0 (ls12_tt f1 f2 (ringC_flat ρ 17) g1 g2) 60 _ _ hs, hl, ⟨9, 11, ⟨?_, ⟨x1, h5⟩, ⟨x2, h6⟩, by decide⟩, by decide⟩, h7⟩
  rw [lA_eq g1.2.2.2, lB_eq g2.2.2.2]; rfl
end
end Go.Proofs.YtbocpikgochioaaDoor.Ways
namespace Go.Proofs.YtbocpikgochioaaDoor.Ways
open Go Go.Ex
/-! ### the copy, as a contract -/
def newV (a : BlA) (L : Nat) : Value := ag [sl L 0 a.n1 a.n1, sl (L + 1) 0 a.n2 a.n2, match a.n with
  | 0 => nilV
  | _ + 1 => sl (L + 2) 0 a.n a.n]
def newB (a : BlA) (cs1 cs2 cs3 : List Value) : List CO := .cells cs1 3 1 false :: .cells cs2 3 1 false :: match a.n with
  | 0 => []
  | _ + 1 => [.cells cs3 103 4 false]
def okCp (a : BlA) (cs1 cs2 cs3 : List Value) : Prop := a.nil = false ∧ (OkI cs1 a.n1 a.c1 ∧ cs1.length = a.n1) ∧ (OkI cs2 a.n2 a.c2 ∧ cs2.length = a.n2) ∧ five a.n ∧ a.c = a.n ∧ cs3 = ringC (rhoE cs3) a.n
noncomputable def cpE : Ent := fun args H =>
  match rdBl args with
  | some x => match cellsOf H x.1 with
    | some [cs1, cs2, cs3] => cond (okBs x.1 && Nat.ble gl H.length) (some (some (tru (okCp x.2 cs1 cs2 cs3)), newV x.2 H.length, pushesL H (newB x.2 cs1 cs2 cs3), [])) none
    | _ => none
  | none => none
section
variable {cs1 cs2 : List Value} {t1 s1 t2 s2 t3 s3 : Nat} {e1 e2 e3 : Bool} {n1 c1 n2 c2 : Nat} {ρ : Nat → Int}
theorem cp_0 (h1 : OkI cs1 n1 c1) (l1 : cs1.length = n1) (h2 : OkI cs2 n2 c2) (l2 : cs2.length = n2) :
    ∃ v H', Sound Tryd.prog 7 (.call Fn.law03_blade ⟨[blV n1 c1 n2 c2 (sl 6 0 0 0)]⟩ (hpB cs1 t1 s1 e1 cs2 t2 s2 e2 (ringC ρ 0) t3 s3 e3)) (.val v H') ∧ H'.length = 14 ∧ (∃ kA kB, Cop H' v cs1 cs2 n1 n2 nilV kA kB ∧ kB < 13) ∧ True := by
  obtain ⟨f1, _, c1', b1⟩ := h1
  obtain ⟨f2, _, c2', b2⟩ := h2
  cases z1 : decide (n1 = 0) <;> cases z2 : decide (n2 = 0)
  · exact cp_0_ff ⟨c1', b1, l1, z1⟩ ⟨c2', b2, l2, z2⟩ f1 f2
  · exact cp_0_ft ⟨c1', b1, l1, z1⟩ ⟨c2', b2, l2, z2⟩ f1 f2
  · exact cp_0_tf ⟨c1', b1, l1, z1⟩ ⟨c2', b2, l2, z2⟩ f1 f2
  · exact cp_0_tt ⟨c1', b1, l1, z1⟩ ⟨c2', b2, l2, z2⟩ f1 f2
theorem cp_1 (h1 : OkI cs1 n1 c1) (l1 : cs1.length = n1) (h2 : OkI cs2 n2 c2) (l2 : cs2.length = n2) :
    ∃ v H', Sound Tryd.prog 7 (.call Fn.law03_blade ⟨[blV n1 c1 n2 c2 (sl 6 0 1 1)]⟩ (hpB cs1 t1 s1 e1 cs2 t2 s2 e2 (ringC ρ 1) t3 s3 e3)) (.val v H') ∧ H'.length = 17 ∧ (∃ kA kB, Cop H' v cs1 cs2 n1 n2 (sl 16 0 1 1) kA kB ∧ kB < 13) ∧ H'[16]? = some (.cells (ringC ρ 1) 103 4 false) := by
  obtain ⟨f1, _, c1', b1⟩ := h1
  obtain ⟨f2, _, c2', b2⟩ := h2
  cases z1 : decide (n1 = 0) <;> cases z2 : decide (n2 = 0)
  · exact cp_1_ff ⟨c1', b1, l1, z1⟩ ⟨c2', b2, l2, z2⟩ f1 f2
  · exact cp_1_ft ⟨c1', b1, l1, z1⟩ ⟨c2', b2, l2, z2⟩ f1 f2
  · exact cp_1_tf ⟨c1', b1, l1, z1⟩ ⟨c2', b2, l2, z2⟩ f1 f2
  · exact cp_1_tt ⟨c1', b1, l1, z1⟩ ⟨c2', b2, l2, z2⟩ f1 f2
theorem cp_2 (h1 : OkI cs1 n1 c1) (l1 : cs1.length = n1) (h2 : OkI cs2 n2 c2) (l2 : cs2.length = n2) :
    ∃ v H', Sound Tryd.prog 7 (.call Fn.law03_blade ⟨[blV n1 c1 n2 c2 (sl 6 0 2 2)]⟩ (hpB cs1 t1 s1 e1 cs2 t2 s2 e2 (ringC ρ 2) t3 s3 e3)) (.val v H') ∧ H'.length = 20 ∧ (∃ kA kB, Cop H' v cs1 cs2 n1 n2 (sl 19 0 2 2) kA kB ∧ kB < 13) ∧ H'[19]? = some (.cells (ringC ρ 2) 103 4 false) := by
  obtain ⟨f1, _, c1', b1⟩ := h1
  obtain ⟨f2, _, c2', b2⟩ := h2
  cases z1 : decide (n1 = 0) <;> cases z2 : decide (n2 = 0)
  · exact cp_2_ff ⟨c1', b1, l1, z1⟩ ⟨c2', b2, l2, z2⟩ f1 f2
  · exact cp_2_ft ⟨c1', b1, l1, z1⟩ ⟨c2', b2, l2, z2⟩ f1 f2
  · exact cp_2_tf ⟨c1', b1, l1, z1⟩ ⟨c2', b2, l2, z2⟩ f1 f2
  · exact cp_2_tt ⟨c1', b1, l1, z1⟩ ⟨c2', b2, l2, z2⟩ f1 f2
theorem cp_3 (h1 : OkI cs1 n1 c1) (l1 : cs1.length = n1) (h2 : OkI cs2 n2 c2) (l2 : cs2.length = n2) :
    ∃ v H', Sound Tryd.prog 7 (.call Fn.law03_blade ⟨[blV n1 c1 n2 c2 (sl 6 0 3 3)]⟩ (hpB cs1 t1 s1 e1 cs2 t2 s2 e2 (ringC ρ 3) t3 s3 e3)) (.val v H') ∧ H'.length = 23 ∧ (∃ kA kB, Cop H' v cs1 cs2 n1 n2 (sl 22 0 3 3) kA kB ∧ kB < 13) ∧ H'[22]? = some (.cells (ringC ρ 3) 103 4 false) := by
  obtain ⟨f1, _, c1', b1⟩ := h1
  obtain ⟨f2, _, c2', b2⟩ := h2
  cases z1 : decide (n1 = 0) <;> cases z2 : decide (n2 = 0)
  · exact cp_3_ff ⟨c1', b1, l1, z1⟩ ⟨c2', b2, l2, z2⟩ f1 f2
  · exact cp_3_ft ⟨c1', b1, l1, z1⟩ ⟨c2', b2, l2, z2⟩ f1 f2
  · exact cp_3_tf ⟨c1', b1, l1, z1⟩ ⟨c2', b2, l2, z2⟩ f1 f2
  · exact cp_3_tt ⟨c1', b1, l1, z1⟩ ⟨c2', b2, l2, z2⟩ f1 f2
theorem cp_17 (h1 : OkI cs1 n1 c1) (l1 : cs1.length = n1) (h2 : OkI cs2 n2 c2) (l2 : cs2.length = n2) :
    ∃ v H', Sound Tryd.prog 7 (.call Fn.law03_blade ⟨[blV n1 c1 n2 c2 (sl 6 0 17 17)]⟩ (hpB cs1 t1 s1 e1 cs2 t2 s2 e2 (ringC ρ 17) t3 s3 e3)) (.val v H') ∧ H'.length = 65 ∧ (∃ kA kB, Cop H' v cs1 cs2 n1 n2 (sl 64 0 17 17) kA kB ∧ kB < 13) ∧ H'[64]? = some (.cells (ringC ρ 17) 103 4 false) := by
  obtain ⟨f1, _, c1', b1⟩ := h1
  obtain ⟨f2, _, c2', b2⟩ := h2
  cases z1 : decide (n1 = 0) <;> cases z2 : decide (n2 = 0)
  · exact cp_17_ff ⟨c1', b1, l1, z1⟩ ⟨c2', b2, l2, z2⟩ f1 f2
  · exact cp_17_ft ⟨c1', b1, l1, z1⟩ ⟨c2', b2, l2, z2⟩ f1 f2
  · exact cp_17_tf ⟨c1', b1, l1, z1⟩ ⟨c2', b2, l2, z2⟩ f1 f2
  · exact cp_17_tt ⟨c1', b1, l1, z1⟩ ⟨c2', b2, l2, z2⟩ f1 f2
end
theorem flatO_of {cs : List Value} {t s : Nat} {e : Bool} (h : cs.all Ex.flat = true) : FlatO (.cells cs t s e) := fun x hx => List.all_eq_true.1 h x hx
theorem RO_weak {ρ : List Nat} {cs : List Value} {t s : Nat} {ex : Bool} (h : cs.all Ex.flat = true) : RO ρ (.cells cs t s false) (.cells cs t s ex) :=
  .cells (fun h => by cases h) rfl fun i x x' hx hx' => by
    rw [hx] at hx'
    cases hx'
    exact .flat (List.all_eq_true.1 h x (List.mem_of_getElem? hx))
section
variable {G : Nat} {H H' : CH} {v : Value} {cs1 cs2 cs3 : List Value} {t1 s1 t2 s2 t3 s3 : Nat} {e1 e2 e3 : Bool} {bs : List Nat} {a : BlA} {args : List Value} {r kA kB : Nat}
theorem cp_fin (hbs : okBs bs = true) (hl : bs.length = 3) (hb : ∀ (j b : Nat) (o : CO), bs[j]? = some b → [CO.cells cs1 t1 s1 e1, .cells cs2 t2 s2 e2, .cells cs3 t3 s3 e3][j]? = some o → H[b]? = some o) (hgl : gl ≤ H.length)
    (has : renOk (List.range gl ++ bs) 8 a.val = true) (hargs : args = [ren (List.range gl ++ bs) 8 a.val]) (f1 : cs1.all Ex.flat = true) (f2 : cs2.all Ex.flat = true) (f3 : cs3.all Ex.flat = true)
    (hs : Sound Tryd.prog 7 (.call Fn.law03_blade ⟨[a.val]⟩ (hpB cs1 t1 s1 e1 cs2 t2 s2 e2 cs3 t3 s3 e3)) (.val v H')) {R : Value} (hc : Cop H' v cs1 cs2 a.n1 a.n2 R kA kB) (hk : kB < 13) {κ : List Nat} {nb : List CO} {R' : Value}
    (hn : (κ = [kA, kB] ∧ nb = [.cells cs1 3 1 false, .cells cs2 3 1 false] ∧ R = nilV ∧ R' = nilV ∧ 13 ≤ H'.length) ∨ (κ = [kA, kB, r] ∧ nb = [.cells cs1 3 1 false, .cells cs2 3 1 false, .cells cs3 103 4 false] ∧ R = sl r 0 a.n a.n ∧ R' = sl (H.length + 2) 0 a.n a.n ∧ 13 ≤ r ∧ r < H'.length ∧ H'[r]? = some (.cells cs3 103 4 false))) :
    Sound Tryd.prog G (.call Fn.law03_blade ⟨args⟩ H) (.val (ag [sl H.length 0 a.n1 a.n1, sl (H.length + 1) 0 a.n2 a.n2, R']) (pushesL H nb)) := by
  obtain ⟨hv, ⟨x1, hA⟩, ⟨x2, hB⟩, hge⟩ := hc
  subst hv
  have hlen : (heapL (deads ++ [CO.cells cs1 t1 s1 e1, .cells cs2 t2 s2 e2, .cells cs3 t3 s3 e3])).length = 7 := by rw [heapL_len]; rfl
  have hA' : ∀ {κ : List Nat}, κ[0]? = some kA → RN (List.replicate H.length H'.length ++ κ) (sl H.length 0 a.n1 a.n1) (sl kA 0 a.n1 a.n1) := fun h => .slice (by have := rep_get (N := H.length) (M := H'.length) h; simpa using this)
  have hB' : ∀ {κ : List Nat}, κ[1]? = some kB → RN (List.replicate H.length H'.length ++ κ) (sl (H.length + 1) 0 a.n2 a.n2) (sl kB 0 a.n2 a.n2) := fun h => .slice (rep_get h)
  have key : ∀ {κ : List Nat} {nb : List CO} {R R' : Value}, κ.length = nb.length → κ.Nodup → (∀ c ∈ κ, 7 ≤ c ∧ c < H'.length) → κ[0]? = some kA → κ[1]? = some kB → RN (List.replicate H.length H'.length ++ κ) R' R → (∀ (j c : Nat) (o : CO), nb[j]? = some o → κ[j]? = some c → o.alive = true → ∃ o', H'[c]? = some o' ∧ RO (List.replicate H.length H'.length ++ κ) o o') →
      Sound Tryd.prog 7 (.call Fn.law03_blade ⟨[a.val]⟩ (hpB cs1 t1 s1 e1 cs2 t2 s2 e2 cs3 t3 s3 e3)) (.val (ag [sl kA 0 a.n1 a.n1, sl kB 0 a.n2 a.n2, R]) H') → Sound Tryd.prog G (.call Fn.law03_blade ⟨args⟩ H) (.val (ag [sl H.length 0 a.n1 a.n1, sl (H.length + 1) 0 a.n2 a.n2, R']) (pushesL H nb)) := by
    intro κ nb R R' k1 k2 k3 k4 k5 k6 k7 hs
    refine Sound.makes (g := deads) (os := [CO.cells cs1 t1 s1 e1, .cells cs2 t2 s2 e2, .cells cs3 t3 s3 e3]) (bs := bs) (al := [a.val]) deads_len deads_flat (fun b o ho ha => ?_) hbs (by simp [hl]) ?_ hb (by simp [has]) (by rw [hargs]; rfl) (by rw [hlen]; exact hs) hgl k1 k2 (by rw [hlen]; exact k3) ?_ k7
    · have := (List.mem_replicate.1 (List.mem_of_getElem? ho)).2
      rw [this] at ha; cases ha
    · intro o ho
      simp at ho
      rcases ho with rfl | rfl | rfl
      · exact flatO_of f1
      · exact flatO_of f2
      · exact flatO_of f3
    · refine RN.nth rfl fun i x y hx hy => ?_
      match i, hx, hy with
      | 0, hx, hy => cases hx; cases hy; exact hA' k4
      | 1, hx, hy => cases hx; cases hy; exact hB' k5
      | 2, hx, hy => cases hx; cases hy; exact k6
      | i + 3, hx, _ => simp at hx
  rcases hn with ⟨rfl, rfl, rfl, rfl, hr⟩ | ⟨rfl, rfl, rfl, rfl, hr1, hr2, hr3⟩
  · refine key (κ := [kA, kB]) (R := nilV) (R' := nilV) rfl (by simp; omega) (fun c hc => ?_) rfl rfl (.flat rfl) (fun j c o ho hc _ => ?_) hs
    · simp at hc; omega
    · match j, ho, hc with
      | 0, ho, hc => cases ho; cases hc; exact ⟨_, hA, RO_weak f1⟩
      | 1, ho, hc => cases ho; cases hc; exact ⟨_, hB, RO_weak f2⟩
      | j + 2, ho, _ => simp at ho
  · refine key (κ := [kA, kB, r]) (R := sl r 0 a.n a.n) (R' := sl (H.length + 2) 0 a.n a.n) rfl (by simp; omega) (fun c hc => ?_) rfl rfl (.slice (rep_get (j := 2) rfl)) (fun j c o ho hc _ => ?_) hs
    · simp at hc; omega
    · match j, ho, hc with
      | 0, ho, hc => cases ho; cases hc; exact ⟨_, hA, RO_weak f1⟩
      | 1, ho, hc => cases ho; cases hc; exact ⟨_, hB, RO_weak f2⟩
      | 2, ho, hc => cases ho; cases hc; exact ⟨_, hr3, RO_weak f3⟩
      | j + 3, ho, _ => simp at ho
end
theorem cpE_ok {G : Nat} : ∀ args H c v H' l, cpE args H = some (c, v, H', l) → c.getD true = true → Same l → Sound Tryd.prog G (.call Fn.law03_blade ⟨args⟩ H) (.val v H') := by
  intro args H c v H' l he hc _
  unfold cpE at he
  split at he
  case h_2 => cases he
  rename_i x hx
  obtain ⟨bs, a⟩ := x
  split at he
  case h_2 => cases he
  rename_i cs1 cs2 cs3 hcs
  dsimp only at hcs
  cases hgb : okBs bs && Nat.ble gl H.length with
  | false =>
    dsimp only at he
    rw [hgb] at he; cases he
  | true =>
    dsimp only at he
    rw [hgb] at he
    cases he
    rw [Bool.and_eq_true] at hgb
    have hok : okCp a cs1 cs2 cs3 := tru_iff.1 hc
    obtain ⟨os, o1, o2, o3⟩ := cellsOf_blks bs _ hcs
    obtain ⟨t1, s1, e1, t2, s2, e2, t3, s3, e3, rfl⟩ := blks3 o1
    obtain ⟨r1, r2⟩ := rdBl_ok args bs a hx
    have r1' : renOk (List.range gl ++ bs) 8 a.val = true := by simpa using r1
    obtain ⟨n1, c1, n2, c2, n, c, nl⟩ := a
    obtain ⟨hnl, ⟨h1, l1⟩, ⟨h2, l2⟩, h5, hcn, h3⟩ := hok
    dsimp only at hnl h1 l1 h2 l2 h5 hcn h3
    subst hnl
    subst hcn
    have f3 : cs3.all Ex.flat = true := by rw [h3]; exact ringC_flat _ _
    rcases h5 with rfl | rfl | rfl | rfl | rfl
    · obtain ⟨v, H2, q1, q2, ⟨kA, kB, q3, q4⟩, _⟩ := cp_0 (t1 := t1) (s1 := s1) (e1 := e1) (t2 := t2) (s2 := s2) (e2 := e2) (t3 := t3) (s3 := s3) (e3 := e3) (ρ := rhoE cs3) h1 l1 h2 l2
      rw [← h3] at q1
      exact cp_fin (r := 0) (a := ⟨n1, c1, n2, c2, 0, 0, false⟩) hgb.1 o2.symm o3 (Nat.le_of_ble_eq_true hgb.2) r1' r2 h1.1 h2.1 f3 q1 q3 q4 (.inl ⟨rfl, rfl, rfl, rfl, by rw [q2]; decide⟩)
    · obtain ⟨v, H2, q1, q2, ⟨kA, kB, q3, q4⟩, q5⟩ := cp_1 (t1 := t1) (s1 := s1) (e1 := e1) (t2 := t2) (s2 := s2) (e2 := e2) (t3 := t3) (s3 := s3) (e3 := e3) (ρ := rhoE cs3) h1 l1 h2 l2
      rw [← h3] at q1
      exact cp_fin (r := 16) (a := ⟨n1, c1, n2, c2, 1, 1, false⟩) hgb.1 o2.symm o3 (Nat.le_of_ble_eq_true hgb.2) r1' r2 h1.1 h2.1 f3 q1 q3 q4 (.inr ⟨rfl, rfl, rfl, rfl, by decide, by rw [q2]; decide, by rw [h3]; exact q5⟩)
    · obtain ⟨v, H2, q1, q2, ⟨kA, kB, q3, q4⟩, q5⟩ := cp_2 (t1 := t1) (s1 := s1) (e1 := e1) (t2 := t2) (s2 := s2) (e2 := e2) (t3 := t3) (s3 := s3) (e3 := e3) (ρ := rhoE cs3) h1 l1 h2 l2
      rw [← h3] at q1
      exact cp_fin (r := 19) (a := ⟨n1, c1, n2, c2, 2, 2, false⟩) hgb.1 o2.symm o3 (Nat.le_of_ble_eq_true hgb.2) r1' r2 h1.1 h2.1 f3 q1 q3 q4 (.inr ⟨rfl, rfl, rfl, rfl, by decide, by rw [q2]; decide, by rw [h3]; exact q5⟩)
    · obtain ⟨v, H2, q1, q2, ⟨kA, kB, q3, q4⟩, q5⟩ := cp_3 (t1 := t1) (s1 := s1) (e1 := e1) (t2 := t2) (s2 := s2) (e2 := e2) (t3 := t3) (s3 := s3) (e3 := e3) (ρ := rhoE cs3) h1 l1 h2 l2
      rw [← h3] at q1
      exact cp_fin (r := 22) (a := ⟨n1, c1, n2, c2, 3, 3, false⟩) hgb.1 o2.symm o3 (Nat.le_of_ble_eq_true hgb.2) r1' r2 h1.1 h2.1 f3 q1 q3 q4 (.inr ⟨rfl, rfl, rfl, rfl, by decide, by rw [q2]; decide, by rw [h3]; exact q5⟩)
    · obtain ⟨v, H2, q1, q2, ⟨kA, kB, q3, q4⟩, q5⟩ := cp_17 (t1 := t1) (s1 := s1) (e1 := e1) (t2 := t2) (s2 := s2) (e2 := e2) (t3 := t3) (s3 := s3) (e3 := e3) (ρ := rhoE cs3) h1 l1 h2 l2
      rw [← h3] at q1
      exact cp_fin (r := 64) (a := ⟨n1, c1, n2, c2, 17, 17, false⟩) hgb.1 o2.symm o3 (Nat.le_of_ble_eq_true hgb.2) r1' r2 h1.1 h2.1 f3 q1 q3 q4 (.inr ⟨rfl, rfl, rfl, rfl, by decide, by rw [q2]; decide, by rw [h3]; exact q5⟩)
end Go.Proofs.YtbocpikgochioaaDoor.Ways
namespace Go.Proofs.YtbocpikgochioaaDoor.Ways
open Go Go.Ex
/-! ### the functions of a ring, as contracts -/
/-- what else comes in: the flow, the ring, two numbers -/
structure ArA where
  b : BlA
  w : Int
  s : Int
  q : Int
  ring : Int
  x : Int
  d : Int
def rdAI : List Value → Option (List Nat × ArA)
  | [v, .agg ⟨[.int .i64 w, .int .i64 s, .int .i64 q]⟩, .int .i64 ring, .agg ⟨[.int .i64 x, .int .i64 d]⟩] => match rdB v with
    | some y => some (y.1, ⟨y.2, w, s, q, ring, x, d⟩)
    | none => none
  | _ => none
def rdAX : List Value → Option (List Nat × ArA)
  | [v, .agg ⟨[.int .i64 w, .int .i64 s, .int .i64 q]⟩, .int .i64 ring, .int .i64 x] => match rdB v with
    | some y => some (y.1, ⟨y.2, w, s, q, ring, x, 0⟩)
    | none => none
  | _ => none
def rdAR : List Value → Option (List Nat × ArA)
  | [v, .agg ⟨[.int .i64 w, .int .i64 s, .int .i64 q]⟩, .int .i64 ring] => match rdB v with
    | some y => some (y.1, ⟨y.2, w, s, q, ring, 0, 0⟩)
    | none => none
  | _ => none
def ArA.valsI (a : ArA) : List Value := [a.b.val, flV a.w a.s a.q, i a.ring, ag [i a.x, i a.d]]
def ArA.valsX (a : ArA) : List Value := [a.b.val, flV a.w a.s a.q, i a.ring, i a.x]
def ArA.valsR (a : ArA) : List Value := [a.b.val, flV a.w a.s a.q, i a.ring]
theorem rdAI_ok : ∀ args bs a, rdAI args = some (bs, a) → a.valsI.all (renOk (List.range gl ++ bs) 8) = true ∧ args = a.valsI.map (ren (List.range gl ++ bs) 8) := by
  intro args bs a h
  unfold rdAI at h
  split at h
  · split at h
    · rename_i x hx
      cases h
      obtain ⟨h1, h2⟩ := rdB_ok hx
      refine ⟨?_, by rw [h2]; rfl⟩
      show (renOk _ 8 x.2.val && _) = true
      rw [h1]; rfl
    · cases h
  · cases h
theorem rdAX_ok : ∀ args bs a, rdAX args = some (bs, a) → a.valsX.all (renOk (List.range gl ++ bs) 8) = true ∧ args = a.valsX.map (ren (List.range gl ++ bs) 8) := by
  intro args bs a h
  unfold rdAX at h
  split at h
  · split at h
    · rename_i x hx
      cases h
      obtain ⟨h1, h2⟩ := rdB_ok hx
      refine ⟨?_, by rw [h2]; rfl⟩
      show (renOk _ 8 x.2.val && _) = true
      rw [h1]; rfl
    · cases h
  · cases h
theorem rdAR_ok : ∀ args bs a, rdAR args = some (bs, a) → a.valsR.all (renOk (List.range gl ++ bs) 8) = true ∧ args = a.valsR.map (ren (List.range gl ++ bs) 8) := by
  intro args bs a h
  unfold rdAR at h
  split at h
  · split at h
    · rename_i x hx
      cases h
      obtain ⟨h1, h2⟩ := rdB_ok hx
      refine ⟨?_, by rw [h2]; rfl⟩
      show (renOk _ 8 x.2.val && _) = true
      rw [h1]; rfl
    · cases h
  · cases h
def okP (a : ArA) (css : List (List Value)) : Prop := okB a.b css ∧ (a.b.nil = false → a.b.n ≠ 0)
def rhoC : List (List Value) → Nat → Int
  | [_, _, cs3] => rhoE cs3
  | _ => rhoE []
def csA : List (List Value) → List Value
  | c :: _ => c
  | [] => []
def sE_ (a : ArA) (css : List (List Value)) : Int := secE (errB a.b css) (flowE a.w a.s a.q) a.ring a.b.n
def clsR (a : ArA) (css : List (List Value)) : Value := resN (firstE (sE_ a css) (rangeE a.x 0 999999999)) (clE (wrapF .i64 (a.x - wrapF .i64 (rhoC css (4 * a.ring.toNat + 2) + a.q))) a.b.n1)
def infR (a : ArA) (css : List (List Value)) : Value := resN (firstE (sE_ a css) (indE a.x a.d)) (infE (rhoC css (4 * a.ring.toNat)) a.w a.s a.x a.d)
def balF (a : ArA) (css : List (List Value)) : Int := balV (scA (rhoC css) a.w a.s a.q a.b.n1 a.b.c1 a.b.n2 a.b.c2 a.ring.toNat, a.x, a.d) [csA css, csA css]
def balR (a : ArA) (css : List (List Value)) : Value := resN (firstE (sE_ a css) (indE a.x a.d)) (balF a css)
theorem f11_small : ∀ a css os, okP a css → Blks css os → ∃ H', Sound Tryd.prog (gl + css.length) (.call Fn.rotor_Inflow ⟨a.valsI⟩ (heapL (deads ++ os))) (.val (infR a css) H') := by
  intro a css os h hb
  obtain ⟨⟨n1, c1, n2, c2, n, c, nl⟩, w, s, q, ring, x, d⟩ := a
  obtain ⟨h, hne⟩ := h
  dsimp only at h hne
  unfold okB at h
  split at h
  · rename_i cs1 cs2 cs3
    dsimp only at h
    obtain ⟨rfl, ⟨h1, h2⟩, h5, rfl, h3⟩ := h
    obtain ⟨t1, s1, e1, t2, s2, e2, t3, s3, e3, rfl⟩ := blks3 hb
    rcases h5 with rfl | rfl | rfl | rfl | rfl
    · exact absurd rfl (hne rfl)
    · have := f11_1 (t1 := t1) (s1 := s1) (e1 := e1) (t2 := t2) (s2 := s2) (e2 := e2) (t3 := t3) (s3 := s3) (e3 := e3) (w := w) (s := s) (q := q) (ring := ring) (ρ := rhoE cs3) h1 h2 x d
      rw [← h3] at this; exact this
    · have := f11_2 (t1 := t1) (s1 := s1) (e1 := e1) (t2 := t2) (s2 := s2) (e2 := e2) (t3 := t3) (s3 := s3) (e3 := e3) (w := w) (s := s) (q := q) (ring := ring) (ρ := rhoE cs3) h1 h2 x d
      rw [← h3] at this; exact this
    · have := f11_3 (t1 := t1) (s1 := s1) (e1 := e1) (t2 := t2) (s2 := s2) (e2 := e2) (t3 := t3) (s3 := s3) (e3 := e3) (w := w) (s := s) (q := q) (ring := ring) (ρ := rhoE cs3) h1 h2 x d
      rw [← h3] at this; exact this
    · have := f11_17 (t1 := t1) (s1 := s1) (e1 := e1) (t2 := t2) (s2 := s2) (e2 := e2) (t3 := t3) (s3 := s3) (e3 := e3) (w := w) (s := s) (q := q) (ring := ring) (ρ := rhoE cs3) h1 h2 x d
      rw [← h3] at this; exact this
  · dsimp only at h
    obtain ⟨rfl, rfl, h1, h2⟩ := h
    obtain ⟨t1, s1, e1, t2, s2, e2, rfl⟩ := blks2 hb
    exact f11_nil h1 h2 x d
  · cases h
theorem f14_small : ∀ a css os, okP a css → Blks css os → ∃ H', Sound Tryd.prog (gl + css.length) (.call Fn.rotor_Balance ⟨a.valsI⟩ (heapL (deads ++ os))) (.val (balR a css) H') := by
  intro a css os h hb
  obtain ⟨⟨n1, c1, n2, c2, n, c, nl⟩, w, s, q, ring, x, d⟩ := a
  obtain ⟨h, hne⟩ := h
  dsimp only at h hne
  unfold okB at h
  split at h
  · rename_i cs1 cs2 cs3
    dsimp only at h
    obtain ⟨rfl, ⟨h1, h2⟩, h5, rfl, h3⟩ := h
    obtain ⟨t1, s1, e1, t2, s2, e2, t3, s3, e3, rfl⟩ := blks3 hb
    rcases h5 with rfl | rfl | rfl | rfl | rfl
    · exact absurd rfl (hne rfl)
    · have := f14_1 (t1 := t1) (s1 := s1) (e1 := e1) (t2 := t2) (s2 := s2) (e2 := e2) (t3 := t3) (s3 := s3) (e3 := e3) (w := w) (s := s) (q := q) (ring := ring) (ρ := rhoE cs3) h1 h2 x d
      rw [← h3] at this; exact this
    · have := f14_2 (t1 := t1) (s1 := s1) (e1 := e1) (t2 := t2) (s2 := s2) (e2 := e2) (t3 := t3) (s3 := s3) (e3 := e3) (w := w) (s := s) (q := q) (ring := ring) (ρ := rhoE cs3) h1 h2 x d
      rw [← h3] at this; exact this
    · have := f14_3 (t1 := t1) (s1 := s1) (e1 := e1) (t2 := t2) (s2 := s2) (e2 := e2) (t3 := t3) (s3 := s3) (e3 := e3) (w := w) (s := s) (q := q) (ring := ring) (ρ := rhoE cs3) h1 h2 x d
      rw [← h3] at this; exact this
    · have := f14_17 (t1 := t1) (s1 := s1) (e1 := e1) (t2 := t2) (s2 := s2) (e2 := e2) (t3 := t3) (s3 := s3) (e3 := e3) (w := w) (s := s) (q := q) (ring := ring) (ρ := rhoE cs3) h1 h2 x d
      rw [← h3] at this; exact this
  · dsimp only at h
    obtain ⟨rfl, rfl, h1, h2⟩ := h
    obtain ⟨t1, s1, e1, t2, s2, e2, rfl⟩ := blks2 hb
    exact f14_nil h1 h2 x d
  · cases h
theorem okP_flat : ∀ a css, okP a css → ∀ cs ∈ css, cs.all Ex.flat = true := fun a css h => okB_flat a.b css h.1
noncomputable def TM1 : Tb := ext (ext (ext TF Fn.law03_blade cpE) Fn.rotor_Inflow (rdE rdAI okP infR [] (heapL deads))) Fn.rotor_Balance (rdE rdAI okP balR [] (heapL deads))
theorem tsM1 {G : Nat} : TSound Tryd.prog G TM1 :=
  ((tsTF.ext cpE_ok).ext
    (rd_ok ArA.valsI deads_len deads_flat deads_mem rdAI_ok okP_flat (fun _ _ _ => rfl) f11_small)).ext
    (rd_ok ArA.valsI deads_len deads_flat deads_mem rdAI_ok okP_flat (fun _ _ _ => rfl) f14_small)
end Go.Proofs.YtbocpikgochioaaDoor.Ways
namespace Go.Proofs.YtbocpikgochioaaDoor.Ways
open Go Go.Ex
/-! ### the law -/
def shE (n1 n2 n : Nat) : Bool := decide (((n1 : Int) ≤ 5 ∨ (n1 : Int) = 33) ∧ ((n2 : Int) ≤ 5 ∨ (n2 : Int) = 33) ∧ ((n : Int) ≤ 3 ∨ (n : Int) = 17))
def spS : Nat → Nat → Split := at_ [(Fn.ref03_Short, 7), (Fn.ref03_Short, 13), (Fn.ref03_Short, 20), (Fn.ref03_Short, 26), (Fn.ref03_Short, 33), (Fn.ref03_Short, 38)] .bool no_
noncomputable def CS : Cfg := ⟨TM1, spS, off_, noL⟩
def fl3 : List (List Value) → Prop
  | [cs1, cs2, cs3] => cs1.all Ex.flat = true ∧ cs2.all Ex.flat = true ∧ cs3.all Ex.flat = true
  | _ => False
def shT (n : Nat) : VT := .br (leF n 3) (lf true) (.br (eqF n 17) (lf true) (lf false))
theorem shT_sel (n : Nat) : (shT n).sel = some (b_ (decide ((n : Int) ≤ 3 ∨ (n : Int) = 17))) := by
  unfold shT
  rw [leF_d, eqF_d, brD, brD]
  by_cases h1 : (n : Int) ≤ 3
  · simp only [h1, if_true, true_or, decide_true]; rfl
  · by_cases h2 : (n : Int) = 17
    · simp only [h2, if_true, or_true, decide_true]; simp; rfl
    · simp only [h1, h2, if_false, or_self, decide_false]; rfl
def shT2 (n : Nat) (k : VT) : VT := .br (leF n 5) k (.br (eqF n 33) k (lf false))
theorem shT2_sel (n : Nat) (k : VT) (p : Prop) [Decidable p] (h : k.sel = some (b_ (decide p))) : (shT2 n k).sel = some (b_ (decide (((n : Int) ≤ 5 ∨ (n : Int) = 33) ∧ p))) := by
  unfold shT2
  rw [leF_d, eqF_d, brD, brD, h]
  by_cases h1 : (n : Int) ≤ 5
  · simp only [h1, if_true, true_or, true_and]
  · by_cases h2 : (n : Int) = 33
    · simp only [h2, if_true, or_true, true_and]; simp
    · simp only [h1, h2, if_false, or_self, false_and, decide_false]; rfl
theorem short_small : ∀ (a : BlA) css os, a.nil = false ∧ fl3 css → Blks css os → ∃ H', Sound Tryd.prog (gl + css.length) (.call Fn.ref03_Short ⟨[a.val]⟩ (heapL (deads ++ os))) (.val (b_ (shE a.n1 a.n2 a.n)) H') := by
  intro a css os h hb
  obtain ⟨n1, c1, n2, c2, n, c, nl⟩ := a
  obtain ⟨h0, h⟩ := h
  dsimp only at h0
  subst h0
  unfold fl3 at h
  split at h
  case h_2 => cases h
  obtain ⟨t1, s1, e1, t2, s2, e2, t3, s3, e3, rfl⟩ := blks3 hb
  refine one_tree (C := CS) (n := 40) (shT2 n1 (shT2 n2 (shT n))) tsM1 .none (by kernel_rfl) (by kernel_rfl) ?_
  exact shT2_sel n1 _ _ (shT2_sel n2 _ _ (shT_sel n))
noncomputable def TN : Tb := ext (ext TM1 Fn.ref03_Short (rdE rdBl (fun a css => a.nil = false ∧ fl3 css) (fun a _ => b_ (shE a.n1 a.n2 a.n)) [] (heapL deads))) Fn.law03_awake (pureE awS [0, 1, 2, 3] Ha)
theorem tsN {G : Nat} : TSound Tryd.prog G TN := by
  refine (tsM1.ext (rd_ok (fun a => [a.val]) deads_len deads_flat deads_mem rdBl_ok ?_ (fun _ _ _ => rfl) short_small)).pure ha_vars fun args v h => ?_
  · intro a css h cs hc
    have h := h.2
    unfold fl3 at h
    split at h
    · simp at hc
      rcases hc with rfl | rfl | rfl
      · exact h.1
      · exact h.2.1
      · exact h.2.2
    · cases h
  · unfold awS at h
    split at h
    · cases h; exact aw_pure
    · cases h
noncomputable def hpN (cs1 : List Value) (t1 s1 : Nat) (cs2 : List Value) (t2 s2 : Nat) (cs3 : List Value) (t3 s3 : Nat) : List CO := [.cells powers 149 1 true, .cells pow10 166 1 true, .cells tab32 173 1 true, .cells tab64 174 1 true, .cells cs1 t1 s1 false, .cells cs2 t2 s2 false, .cells cs3 t3 s3 false]
def spV (ring a d x e : Int) : Value := ag [i ring, i a, i d, i x, i e]
end Go.Proofs.YtbocpikgochioaaDoor.Ways
namespace Go.Proofs.YtbocpikgochioaaDoor.Ways
open Go Go.Ex
def k4 : List CK := [.i .i64, .i .i64, .i .i64, .i .i64]
def posF (b : Bool) (k : VT) : VT := .br b k (lf false)
theorem posF_sel {b : Bool} {k : VT} (h : b = true) : (posF b k).sel = k.sel := by rw [h]; rfl
def rE (cs : List Value) (ring : Int) : Int := intO cs[0 + ring.toNat * 4]?
def cE_ (cs : List Value) (ring : Int) : Int := intO cs[0 + ring.toNat * 4 + 1]?
def tE_ (cs : List Value) (ring : Int) : Int := intO cs[0 + ring.toNat * 4 + 1 + 1]?
def pE_ (cs : List Value) (ring : Int) : Int := intO cs[0 + ring.toNat * 4 + 1 + 1 + 1]?
def cpA_ (n1 n2 n : Nat) : BlA := ⟨n1, n1, n2, n2, n, n, match n with
  | 0 => true
  | _ + 1 => false⟩
def argA (n1 n2 n : Nat) : BlA := ⟨n1, n1, n2, n2, n, n, false⟩
def cpS (cs1 cs2 cs3 : List Value) (n : Nat) : List (List Value) :=
  match n with
  | 0 => [cs1, cs2]
  | _ + 1 => [cs1, cs2, cs3]
section
variable (cs1 cs2 cs3 : List Value) (t1 s1 t2 s2 t3 s3 n1 n2 : Nat) (w s q ring a d x e : Int)
end
/-- blades that are not short -/
noncomputable def zB : Ent := fun _ H => some (some (tru False), i 0, H, [])
end Go.Proofs.YtbocpikgochioaaDoor.Ways
namespace Go.Proofs.YtbocpikgochioaaDoor.Ways
open Go Go.Ex
/-! ### what both sides compute -/
theorem idx0 (cs : List Value) (ring : Int) : rhoE cs (4 * ring.toNat) = rE cs ring := by
  unfold rhoE rE; rw [show 4 * ring.toNat = 0 + ring.toNat * 4 from by omega]
theorem idx1 (cs : List Value) (ring : Int) : rhoE cs (4 * ring.toNat + 1) = cE_ cs ring := by
  unfold rhoE cE_; rw [show 4 * ring.toNat + 1 = 0 + ring.toNat * 4 + 1 from by omega]
theorem idx2 (cs : List Value) (ring : Int) : rhoE cs (4 * ring.toNat + 2) = tE_ cs ring := by
  unfold rhoE tE_; rw [show 4 * ring.toNat + 2 = 0 + ring.toNat * 4 + 1 + 1 from by omega]
theorem idx3 (cs : List Value) (ring : Int) : rhoE cs (4 * ring.toNat + 3) = pE_ cs ring := by
  unfold rhoE pE_; rw [show 4 * ring.toNat + 3 = 0 + ring.toNat * 4 + 1 + 1 + 1 from by omega]
theorem pow_two {d : Int} (h : 1 ≤ d ∧ d ≤ 12) : powE d = 2 * powE (d - 1) ∧ 1 ≤ powE (d - 1) := by
  have : d = 1 ∨ d = 2 ∨ d = 3 ∨ d = 4 ∨ d = 5 ∨ d = 6 ∨ d = 7 ∨ d = 8 ∨ d = 9 ∨ d = 10 ∨ d = 11 ∨ d = 12 := by omega
  rcases this with rfl | rfl | rfl | rfl | rfl | rfl | rfl | rfl | rfl | rfl | rfl | rfl <;> decide
theorem inf_bd {r w s a d : Int} (hr : 1 ≤ r ∧ r ≤ 200) (hw : 1 ≤ w ∧ w ≤ 50) (hs : 1 ≤ s ∧ s ≤ 1000) (hd : 1 ≤ d ∧ d ≤ 12) (ha : 0 ≤ a ∧ a ≤ powE (d - 1)) :
    infE r w s a d = (1024 * (powE d - a) * w) / (powE d * s * r) ∧ 0 ≤ infE r w s a d ∧ infE r w s a d ≤ 209715200 := by
  obtain ⟨p1, p2⟩ := pow_two hd
  have hp := pow_bd hd
  obtain ⟨q1, q2, q3⟩ := den_eq hr hs hd
  have m1 := mul_bd (a := powE d - a) (b := w) (A := 4096) (B := 50) (by omega) (by omega)
  have e1 : wrapF .i64 (powE d - a) = powE d - a := wrapF_in (by omega) (by omega)
  have e2 : wrapF .i64 (1024 * (powE d - a)) = 1024 * (powE d - a) := wrapF_in (by omega) (by omega)
  have e3 : 1024 * (powE d - a) * w = 1024 * ((powE d - a) * w) := Int.mul_assoc _ _ _
  have e4 : wrapF .i64 (1024 * (powE d - a) * w) = 1024 * (powE d - a) * w := wrapF_in (by omega) (by omega)
  have h0 : 0 ≤ 1024 * (powE d - a) * w := by omega
  have h1 : 0 ≤ (1024 * (powE d - a) * w) / (powE d * s * r) := Int.ediv_nonneg h0 (by omega)
  have h2 : (1024 * (powE d - a) * w) / (powE d * s * r) ≤ 1024 * (powE d - a) * w := Int.ediv_le_self _ h0
  have e5 : infE r w s a d = (1024 * (powE d - a) * w) / (powE d * s * r) := by
    unfold infE
    rw [e1, e2, e4, q1, Int.tdiv_eq_ediv_of_nonneg h0, wrapF_in (by omega) (by omega)]
  rw [e5]
  exact ⟨rfl, h1, by omega⟩
theorem twist_eq {x t q : Int} (hx : 0 ≤ x ∧ x ≤ 999999999) (ht : -64 ≤ t ∧ t ≤ 64) (hq : -64 ≤ q ∧ q ≤ 64) : wrapF .i64 (x - wrapF .i64 (t + q)) = wrapF .i64 (wrapF .i64 (x - t) - q) := by
  rw [wrapF_in (n := t + q) (by omega) (by omega), wrapF_in (n := x - t) (by omega) (by omega)]
  congr 1
  omega
section
variable {cs1 cs2 cs3 : List Value} {n1 n2 n : Nat} {w s q ring a d x : Int}
/-- what the law's arguments are -/
structure LawIn (cs1 cs2 cs3 : List Value) (n1 n2 n : Nat) : Prop where
  o1 : OkI cs1 n1 n1
  l1 : cs1.length = n1
  o2 : OkI cs2 n2 n2
  l2 : cs2.length = n2
  r3 : cs3 = ringC (rhoE cs3) n
  k3 : ∀ j, j < n → areCells k4 cs3 (0 + j * 4) = true
  f : five n
theorem bad_eq (cs1 cs2 cs3 : List Value) (n1 n2 n : Nat) (w s q ring x d : Int) : sE_ ⟨cpA_ n1 n2 n, w, s, q, ring, x, d⟩ (cpS cs1 cs2 cs3 n) = sE_ ⟨argA n1 n2 n, w, s, q, ring, 0, 0⟩ [cs1, cs2, cs3] := by
  cases n with
  | succ k => rfl
  | zero =>
    show secE (bladeE cs1 n1 cs2 n2 (rhoE []) 0) (flowE w s q) ring 0 = secE (bladeE cs1 n1 cs2 n2 (rhoE cs3) 0) (flowE w s q) ring 0
    have : bladeE cs1 n1 cs2 n2 (rhoE []) 0 = bladeE cs1 n1 cs2 n2 (rhoE cs3) 0 := by
      unfold bladeE
      by_cases h : polE cs1 n1 cs2 n2 = 0
      · rw [if_pos h, if_pos h, if_pos rfl, if_pos rfl]
      · rw [if_neg h, if_neg h]
    rw [this]
/-- what a ring without errors is -/
theorem ring_in (_hI : LawIn cs1 cs2 cs3 n1 n2 n) (h : sE_ ⟨argA n1 n2 n, w, s, q, ring, 0, 0⟩ [cs1, cs2, cs3] = 0) :
    (0 ≤ ring ∧ ring < n) ∧ 1 ≤ n1 ∧ (1 ≤ rE cs3 ring ∧ rE cs3 ring ≤ 200) ∧ (1 ≤ cE_ cs3 ring ∧ cE_ cs3 ring ≤ 100) ∧ (-64 ≤ tE_ cs3 ring ∧ tE_ cs3 ring ≤ 64) ∧ (0 ≤ pE_ cs3 ring ∧ pE_ cs3 ring ≤ 256) ∧ (1 ≤ w ∧ w ≤ 50) ∧ (1 ≤ s ∧ s ≤ 1000) ∧ (-64 ≤ q ∧ q ≤ 64) := by
  obtain ⟨hb, hf, h1, h2⟩ := sec_z (show secE (bladeE cs1 n1 cs2 n2 (rhoE cs3) n) (flowE w s q) ring n = 0 from h)
  obtain ⟨hp, _, _, hr⟩ := blade_z hb
  obtain ⟨hrj, _⟩ := hr ring.toNat (by omega)
  obtain ⟨g1, g2, g3, g4⟩ := ring4_z hrj
  obtain ⟨f1, f2, f3⟩ := flow_z hf
  rw [idx0] at g1
  rw [idx1] at g2
  rw [idx2] at g3
  rw [idx3] at g4
  exact ⟨⟨h1, h2⟩, (pol_z hp).1, g1, g2, g3, g4, f1, f2, f3⟩
theorem cpS_pos (h : 0 < n) : cpS cs1 cs2 cs3 n = [cs1, cs2, cs3] := by
  cases n with
  | zero => omega
  | succ k => rfl
theorem okP_cp (hI : LawIn cs1 cs2 cs3 n1 n2 n) (x d : Int) : okP ⟨cpA_ n1 n2 n, w, s, q, ring, x, d⟩ (cpS cs1 cs2 cs3 n) := by
  obtain ⟨o1, l1, o2, l2, r3, k3, f⟩ := hI
  cases n with
  | zero => exact ⟨⟨rfl, rfl, o1, o2⟩, fun h => by cases h⟩
  | succ k => exact ⟨⟨rfl, ⟨o1, o2⟩, f, rfl, r3⟩, fun _ h => by cases h⟩
theorem shE_five (h : shE n1 n2 n = true) : five n ∨ (n = 0 ∨ n = 1 ∨ n = 2 ∨ n = 3 ∨ n = 17) := by
  unfold shE at h
  rw [decide_eq_true_eq] at h
  right
  omega
end
section
variable (cs1 cs2 cs3 : List Value) (t1 s1 t2 s2 t3 s3 n1 n2 n : Nat) (w s q ring a d x e : Int)
end
end Go.Proofs.YtbocpikgochioaaDoor.Ways
