/- Engine, part 38: a region whose order is open, followed along all its orders: the state behind each set of operations is written out. -/
import Derived.Test.YtbocpikgochioaaDoorEngMake
noncomputable section
namespace Go.Ex
open Go.RowKit

def bitsL (n m : Nat) : List Bool := (List.range n).map fun i => Nat.testBit m i
theorem bitsL_set {n m i : Nat} (hi : i < n) : (bitsL n m).set i true = bitsL n (m ||| 2 ^ i) := by
  apply List.ext_getElem?
  intro j
  unfold bitsL
  rw [List.getElem?_set]
  simp only [List.length_map, List.length_range, List.getElem?_map]
  by_cases hij : i = j
  · subst hij
    rw [if_pos rfl, if_pos hi, List.getElem?_range hi]
    simp [Nat.testBit_or, Nat.testBit_two_pow]
  · rw [if_neg hij]
    rcases Nat.lt_or_ge j n with hj | hj
    · rw [List.getElem?_range hj]
      simp [Nat.testBit_or, Nat.testBit_two_pow, hij]
    · rw [List.getElem?_eq_none (by simpa using hj)]; rfl
def arrB (n m : Nat) : Array Bool := ⟨bitsL n m⟩
theorem arrB_set {n m i : Nat} (hi : i < n) : (arrB n m).setIfInBounds i true = arrB n (m ||| 2 ^ i) := by
  unfold arrB
  rw [← bitsL_set hi]
  simp
theorem arrB_size (n m : Nat) : (arrB n m).size = n := by simp [arrB, bitsL]
theorem arrB_zero (n : Nat) : arrB n 0 = Array.replicate n false := by
  apply Array.ext'
  unfold arrB bitsL
  simp
  apply List.ext_getElem?
  intro j
  rw [List.getElem?_map, List.getElem?_replicate]
  rcases Nat.lt_or_ge j n with h | h
  · rw [List.getElem?_range h, if_pos h]; rfl
  · rw [List.getElem?_eq_none (by simpa using h), if_neg (by omega)]; rfl

/-- what is known of the orders -/
structure Orders (sf : Task → Option Res) (P : Program) (G : Nat) (ops : Array Oper) (k : Nat) (Good : Nat → Prop) (tmS : Nat → Array Value) (HS : Nat → CH) (mF : Nat) : Prop where
  step : ∀ m, Good m → ∀ i ∈ Region.ready .any ops (arrB ops.size m), ∃ o v H1, ops[i]? = some o ∧ o.guard = none ∧ opX sf P G (tmS m) (HS m) o = some (v, H1) ∧ Good (m ||| 2 ^ i) ∧ Restate k (put (tmS m) o.dst v) H1 (tmS (m ||| 2 ^ i)) (HS (m ||| 2 ^ i))
  fin : ∀ m, Good m → Region.ready .any ops (arrB ops.size m) = [] → m = mF
theorem wanted_none {o : Oper} (h : o.guard = none) (y : Nat → Option Bool) : Region.wanted o y = true := by unfold Region.wanted; rw [h]
theorem orders_any {self : Task → Option Res} {P : Program} {G : Nat} {ops : Array Oper} {k : Nat} {Good : Nat → Prop} {tmS : Nat → Array Value} {HS : Nat → CH} {mF : Nat} (hself : SelfSound P G self) (h : Orders self P G ops k Good tmS HS mF) (hG : G ≤ k)
    {w0 : World} {E0 : Env} {d0 : List Deferred} (ro' : Option Nat) (n : Nat) {Q : Exit → Act → World → Prop}
    (hq : ∀ E a' w', E.take k = E0.take k → k ≤ E.length → WR w0 G E (HS mF) w' → VRs E (tmS mF) a'.tmps → a'.defers = d0 → Q .normal a' w') :
    ∀ (fuel m : Nat) (E : Env) (a : Act) (w : World), Good m → E.take k = E0.take k → k ≤ E.length → WR w0 G E (HS m) w → VRs E (tmS m) a.tmps → a.defers = d0 → un ops.size (arrB ops.size m) ≤ fuel → wpAnyIn (FW ro') n P .any ops Q fuel (arrB ops.size m) a w := by
  have hend : ∀ (m : Nat) (E : Env) (a : Act) (w : World), Good m → E.take k = E0.take k → k ≤ E.length → WR w0 G E (HS m) w → VRs E (tmS m) a.tmps → a.defers = d0 → Region.ready .any ops (arrB ops.size m) = [] → Q .normal a w := by
    intro m E a w hg hE hk hw ht hd hr
    have := h.fin m hg hr
    subst this
    exact hq E a w hE hk hw ht hd
  intro fuel
  induction fuel with
  | zero =>
    intro m E a w hg hE hk hw ht hd hu
    have hr : Region.ready .any ops (arrB ops.size m) = [] := by
      apply List.eq_nil_iff_forall_not_mem.2
      intro i hi
      rw [mem_ready] at hi
      obtain ⟨h0, o, ho, _⟩ := hi
      have := un_set (ops := ops) (arrB_size _ m) (Array.getElem?_eq_some_iff.1 ho).1 (not_inD h0)
      omega
    exact ⟨hr, hend m E a w hg hE hk hw ht hd hr⟩
  | succ fuel ih =>
    intro m E a w hg hE hk hw ht hd hu
    refine ⟨hend m E a w hg hE hk hw ht hd, fun i hi => ?_⟩
    obtain ⟨o, v, H1, ho, hng, hop, hg2, hre⟩ := h.step m hg i hi
    have hlt : i < ops.size := (Array.getElem?_eq_some_iff.1 ho).1
    obtain ⟨h0, _⟩ := mem_ready.1 hi
    have hni := not_inD h0
    have hun : un ops.size ((arrB ops.size m).setIfInBounds i true) ≤ fuel := by
      have := un_set (ops := ops) (arrB_size _ m) hlt hni
      omega
    rw [arrB_set hlt] at hun ⊢
    unfold wpOpIn
    rw [ho]
    dsimp only
    rw [if_pos (wanted_none hng _)]
    refine opX_soundρ hself hop ro' n hw (fun x _ hok => ev_rel hw ht hok) fun F v' w' h1 h2 => ?_
    obtain ⟨p1, p2⟩ := put_rel (ht.mono F) o.dst h2
    obtain ⟨E2, e1, e2, e3⟩ := hre.use hG h1 p1
    rw [take_app hk] at e1
    have hk2 : k ≤ E2.length := by
      have h9 := congrArg List.length e1
      rw [List.length_take, List.length_take] at h9
      omega
    exact ih _ E2 _ w' hg2 (e1.trans hE) hk2 e2 e3 (by rw [Act.put_dfr]; exact hd) hun
theorem orders_sound {self : Task → Option Res} {P : Program} {G id : Nat} {ops : Array Oper} {Good : Nat → Prop} {tmS : Nat → Array Value} {HS : Nat → CH} {mF : Nat} (hself : SelfSound P G self) (hmix : P.follows .mixedOrders = true) {tm0 : Array Value} {H0 : CH} (h : Orders self P G ops H0.length Good tmS HS mF) (hG : G ≤ H0.length)
    (h0 : Good 0) (hst : Restate H0.length tm0 H0 (tmS 0) (HS 0)) (ro : Option Nat) : Sound P G (.code (.region id ops true) ro tm0 H0 []) (.ex .normal (tmS mF) (HS mF) []) := by
  intro w0 E a w ro' n Q hw ht hd hr hq
  refine ⟨?_, fun b hb => by cases hb⟩
  have hlen := hw.len
  obtain ⟨E1, e1, e2, e3⟩ := hst.use hG hw ht
  have hk1 : H0.length ≤ E1.length := by
    have h9 := congrArg List.length e1
    rw [List.length_take, List.length_take] at h9
    omega
  refine wpIn_region_any hmix ?_
  rw [← arrB_zero]
  refine orders_any (w0 := w0) (E0 := E) (d0 := a.defers) hself h hG ro' n (fun E' a' w' h1 hk h2 h3 h4 => ?_) ops.size 0 E1 a _ h0 e1 hk1 (e2.draws _) e3 rfl ?_
  · have hE : E'.take H0.length = E := by rw [h1, ← hlen]; exact List.take_length
    have hE' : E' = E ++ E'.drop H0.length := by
      conv => lhs; rw [← List.take_append_drop H0.length E', hE]
    rw [hE'] at h2 h3
    exact hq _ a' w' h2 h3 (by rw [h4]; exact hd.mono _)
  · unfold un
    have : ((List.range ops.size).countP fun i => !(arrB ops.size 0).getD i false) ≤ (List.range ops.size).length := List.countP_le_length
    simpa using this

/-! ### the orders, looked at by the kernel -/
noncomputable def noW : OTask → Out QRes := fun _ => .fail
theorem noW_sound {P : Program} {G : Nat} : OSound P G noW := fun _ _ h => by cases h
section
variable (P : Program) (G : Nat) (C : Cfg) (f : Nat) (ops : Array Oper) (N : Nat) (live : Nat → List (Nat × Value)) (hp : Nat → List (CO × Bool)) (rho : Nat → List Nat) (ans conds : Nat → List Bool) (len : Nat → Nat)
def readyN (m : Nat) : List Nat := Region.ready .any ops (arrB ops.size m)
def trsN (states : List Nat) : List (Nat × Nat) := states.flatMap fun m => (readyN ops m).map fun i => (m, i)
noncomputable def outN (t : Nat × Nat) : Out (Value × CH) :=
  match ops[t.2]? with
  | some o => opO noW P G C f (tmL N (live t.1)) (heapL ((hp t.1).map (·.1))) o
  | none => .fail
noncomputable def obsN (t : Nat × Nat) : Option (List Bool × Bool × Nat × Nat × List Value × List (Option CO)) :=
  match ops[t.2]? with
  | some o => match (outN P G C f ops N live hp t).way (ans t.2) with
    | some x => some (x.1, o.guard.isNone, (putH (tmL N (live t.1)) o.dst x.2.1).length, x.2.2.length, (live (t.1 ||| 2 ^ t.2)).map (fun p => tval (putH (tmL N (live t.1)) o.dst x.2.1) p.1), obsH x.2.2 (hp (t.1 ||| 2 ^ t.2)) (rho t.2))
    | none => none
  | none => none
def expN (t : Nat × Nat) : Option (List Bool × Bool × Nat × Nat × List Value × List (Option CO)) :=
  some (conds t.2, true, N, len t.2, (live (t.1 ||| 2 ^ t.2)).map (fun p => ren (rho t.2) 8 p.2), expH (rho t.2) (hp (t.1 ||| 2 ^ t.2)) (rho t.2))
def closedN (states : List Nat) (mF : Nat) : Bool :=
  (trsN ops states).all (fun t => memB (t.1 ||| 2 ^ t.2) states) && (states.all fun m => match readyN ops m with
    | [] => Nat.beq m mF
    | _ :: _ => true)
end
theorem orders_of {P : Program} {G : Nat} {C : Cfg} {f : Nat} {ops : Array Oper} {N : Nat} {live : Nat → List (Nat × Value)} {hp : Nat → List (CO × Bool)} {rho : Nat → List Nat} {ans conds : Nat → List Bool} {len : Nat → Nat} {k mF : Nat} (states : List Nat)
    (h1 : (trsN ops states).map (outN P G C f ops N live hp) = (trsN ops states).map fun t => (outN P G C f ops N live hp t).fix) (h2 : (trsN ops states).map (obsN P G C f ops N live hp rho ans) = (trsN ops states).map (expN N live hp rho conds len))
    (h3 : ∀ i, conds i = (ans i).take (conds i).length) (h4 : ((trsN ops states).all fun t => goodR k (len t.2) (live (t.1 ||| 2 ^ t.2)) (hp (t.1 ||| 2 ^ t.2)) (rho t.2)) = true) (h5 : closedN ops states mF = true) (h6 : ∀ m o, (o, true) ∈ hp m → FlatO o) :
    Orders (selfA (qS noW)) P G ops k (fun m => m ∈ states) (fun m => absT (tmL N (live m))) (fun m => heapL ((hp m).map (·.1))) mF := by
  unfold closedN at h5
  rw [Bool.and_eq_true] at h5
  refine ⟨fun m hm i hi => ?_, fun m hm hr => ?_⟩
  · have hmem : (m, i) ∈ trsN ops states := by
      unfold trsN
      rw [List.mem_flatMap]
      exact ⟨m, hm, List.mem_map.2 ⟨i, hi, rfl⟩⟩
    have q1 := map_eq_mem _ h1 (m, i) hmem
    have q2 := map_eq_mem _ h2 (m, i) hmem
    have q4 := List.all_eq_true.1 h4 (m, i) hmem
    have q5 := List.all_eq_true.1 h5.1 (m, i) hmem
    dsimp only at q4 q5
    unfold obsN expN at q2
    dsimp only at q2
    split at q2
    case h_2 => cases q2
    rename_i o ho
    split at q2
    case h_2 => cases q2
    rename_i x hx
    obtain ⟨cs, v, H1⟩ := x
    simp only [Option.some.injEq, Prod.mk.injEq] at q2
    obtain ⟨rfl, hng, hN, hlen, hlive, hheap⟩ := q2
    have hsel := Out.way_sel q1 hx (h3 i)
    unfold outN at hsel
    dsimp only at hsel
    rw [ho] at hsel
    have hop := opO_sel hsel
    unfold goodR at q4
    simp only [Bool.and_eq_true, beq_iff_eq, decide_eq_true_eq] at q4
    obtain ⟨g1, g2, g3, g4, g5, g6, g7⟩ := q4
    refine ⟨o, v, H1, ho, by simpa using hng, hop, (memB_iff _).1 q5, ?_⟩
    rw [← putH_abs]
    refine restate_of (rho i) (live (m ||| 2 ^ i)) (hp (m ||| 2 ^ i)) hN (Nat.eq_of_beq_eq_true g1) (Nat.le_of_ble_eq_true g2) g3 g4 (fun c hc => ?_) hlive g6 hheap g7 (h6 _)
    rw [hlen]
    exact blt_lt (List.all_eq_true.1 g5 c hc)
  · have := List.all_eq_true.1 h5.2 m hm
    have hr' : readyN ops m = [] := hr
    rw [hr'] at this
    exact Nat.eq_of_beq_eq_true this
/-- the entry of a region -/
noncomputable def regE (L : LTab) (f0 id0 N k : Nat) (ops : Array Oper) (live0 : List (Nat × Value)) (hp0 : List (CO × Bool)) (o : Out QRes) : LTab := fun f id tm H df =>
  cond (Nat.beq f f0 && (Nat.beq id (id0 + 500000) && (Nat.beq tm.length N && (Nat.beq H.length k && isNil df)))) (some (.region id0 ops true, .same (reqT k live0 tm ++ reqH k hp0 H) o)) (L f id tm H df)
theorem LSound.region {P : Program} {G : Nat} {L : LTab} {f0 id0 N k : Nat} {ops : Array Oper} {live0 : List (Nat × Value)} {hp0 : List (CO × Bool)} {o : Out QRes} (hL : LSound P G L) (hgood : goodR k k live0 hp0 (List.range k) = true) (hflat : ∀ o, (o, true) ∈ hp0 → FlatO o)
    (h : ∀ r, o.sel = some r → ∀ ro (tm0 : Array Value) (H0 : CH), H0.length = k → Restate k tm0 H0 (absT (tmL N live0)) (heapL (hp0.map (·.1))) → Sound P G (.code (.region id0 ops true) ro tm0 H0 []) r.abs) : LSound P G (regE L f0 id0 N k ops live0 hp0 o) := by
  intro f id tm H df c o' r ro he hr
  unfold regE at he
  cases hc : (Nat.beq f f0 && (Nat.beq id (id0 + 500000) && (Nat.beq tm.length N && (Nat.beq H.length k && isNil df)))) with
  | false => rw [hc] at he; exact hL f id tm H df c o' r ro he hr
  | true =>
    rw [hc] at he
    cases he
    simp only [Bool.and_eq_true] at hc
    obtain ⟨_, _, h3, h4, h5⟩ := hc
    have hdf : df = [] := by cases df <;> first | rfl | cases h5
    subst hdf
    obtain ⟨hs, hsel⟩ := ifSame_some (k := o.sel) hr
    have hk := Nat.eq_of_beq_eq_true h4
    refine h r hsel ro (absT tm) H hk ?_
    unfold goodR at hgood
    simp only [Bool.and_eq_true, beq_iff_eq, decide_eq_true_eq] at hgood
    obtain ⟨g1, g2, g3, g4, g5, g6, g7⟩ := hgood
    refine restate_of (List.range k) live0 hp0 (Nat.eq_of_beq_eq_true h3) (Nat.eq_of_beq_eq_true g1) (Nat.le_of_ble_eq_true g2) g3 g4 (fun c hc => by rw [hk]; exact List.mem_range.1 hc) (reqT_of _ fun z hz => hs z (List.mem_append_left _ hz)) g6 ?_ g7 hflat
    exact pairsH_same _ _ (obsH_len _ _ _ _) fun z hz => hs z (List.mem_append_right _ hz)
end Go.Ex
