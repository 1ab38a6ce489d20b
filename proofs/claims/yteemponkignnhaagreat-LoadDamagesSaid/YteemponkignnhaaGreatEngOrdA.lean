/- Part of the proof. -/
import Derived.Test.YteemponkignnhaaGreatEngMk
noncomputable section
namespace Go.Ex
open Go.RowKit
def bitsL (n m : Nat) : List Bool := (List.range n).map fun i => Nat.testBit m i
theorem bitsL_set {n m i : Nat} (hi : i < n) : (bitsL n m).set i true = bitsL n (m ||| 2 ^ i) := by
  apply List.ext_getElem?
  intro j
  unfold bitsL
  rw [List.getElem?_set]
  simp only [List.length_map, List.length_range, List.getElem?_map]
  by_cases hij : i = j
  · subst hij
    rw [if_pos rfl, if_pos hi, List.getElem?_range hi]
    simp [Nat.testBit_or, Nat.testBit_two_pow]
  · rw [if_neg hij]
    rcases Nat.lt_or_ge j n with hj | hj
    · rw [List.getElem?_range hj]
      simp [Nat.testBit_or, Nat.testBit_two_pow, hij]
    · rw [List.getElem?_eq_none (by simpa using hj)]; rfl
def arrB (n m : Nat) : Array Bool := ⟨bitsL n m⟩
theorem arrB_set {n m i : Nat} (hi : i < n) : (arrB n m).setIfInBounds i true = arrB n (m ||| 2 ^ i) := by
  unfold arrB
  rw [← bitsL_set hi]
  simp
theorem arrB_size (n m : Nat) : (arrB n m).size = n := by simp [arrB, bitsL]
theorem arrB_zero (n : Nat) : arrB n 0 = Array.replicate n false := by
  apply Array.ext'
  unfold arrB bitsL
  simp
  apply List.ext_getElem?
  intro j
  rw [List.getElem?_map, List.getElem?_replicate]
  rcases Nat.lt_or_ge j n with h | h
  · rw [List.getElem?_range h, if_pos h]; rfl
  · rw [List.getElem?_eq_none (by simpa using h), if_neg (by omega)]; rfl
structure Orders (sf : Task → Option Res) (P : Program) (G : Nat) (ops : Array Oper) (k : Nat) (Good : Nat → Prop) (tmS : Nat → Array Value) (HS : Nat → CH) (mF : Nat) : Prop where
  step : ∀ m, Good m → ∀ i ∈ Region.ready .any ops (arrB ops.size m), ∃ o v H1, ops[i]? = some o ∧ o.guard = none ∧ opX sf P G (tmS m) (HS m) o = some (v, H1) ∧ Good (m ||| 2 ^ i) ∧ Restate k (put (tmS m) o.dst v) H1 (tmS (m ||| 2 ^ i)) (HS (m ||| 2 ^ i))
  fin : ∀ m, Good m → Region.ready .any ops (arrB ops.size m) = [] → m = mF
theorem wanted_none {o : Oper} (h : o.guard = none) (y : Nat → Option Bool) : Region.wanted o y = true := by unfold Region.wanted; rw [h]
theorem orders_any {self : Task → Option Res} {P : Program} {G : Nat} {ops : Array Oper} {k : Nat} {Good : Nat → Prop} {tmS : Nat → Array Value} {HS : Nat → CH} {mF : Nat} (hself : SelfSound P G self) (h : Orders self P G ops k Good tmS HS mF) (hG : G ≤ k)
    {w0 : World} {E0 : Env} {d0 : List Deferred} (ro' : Option Nat) (n : Nat) {Q : Exit → Act → World → Prop}
    (hq : ∀ E a' w', E.take k = E0.take k → k ≤ E.length → WR w0 G E (HS mF) w' → VRs E (tmS mF) a'.tmps → a'.defers = d0 → Q .normal a' w') :
    ∀ (fuel m : Nat) (E : Env) (a : Act) (w : World), Good m → E.take k = E0.take k → k ≤ E.length → WR w0 G E (HS m) w → VRs E (tmS m) a.tmps → a.defers = d0 → un ops.size (arrB ops.size m) ≤ fuel → wpAnyIn (FW ro') n P .any ops Q fuel (arrB ops.size m) a w := by
  have hend : ∀ (m : Nat) (E : Env) (a : Act) (w : World), Good m → E.take k = E0.take k → k ≤ E.length → WR w0 G E (HS m) w → VRs E (tmS m) a.tmps → a.defers = d0 → Region.ready .any ops (arrB ops.size m) = [] → Q .normal a w := by
    intro m E a w hg hE hk hw ht hd hr
    have := h.fin m hg hr
    subst this
    exact hq E a w hE hk hw ht hd
  intro fuel
  induction fuel with
  | zero =>
    intro m E a w hg hE hk hw ht hd hu
    have hr : Region.ready .any ops (arrB ops.size m) = [] := by
      apply List.eq_nil_iff_forall_not_mem.2
      intro i hi
      rw [mem_ready] at hi
      obtain ⟨h0, o, ho, _⟩ := hi
      have := un_set (ops := ops) (arrB_size _ m) (Array.getElem?_eq_some_iff.1 ho).1 (not_inD h0)
      omega
    exact ⟨hr, hend m E a w hg hE hk hw ht hd hr⟩
  | succ fuel ih =>
    intro m E a w hg hE hk hw ht hd hu
    refine ⟨hend m E a w hg hE hk hw ht hd, fun i hi => ?_⟩
    obtain ⟨o, v, H1, ho, hng, hop, hg2, hre⟩ := h.step m hg i hi
    have hlt : i < ops.size := (Array.getElem?_eq_some_iff.1 ho).1
    obtain ⟨h0, _⟩ := mem_ready.1 hi
    have hni := not_inD h0
    have hun : un ops.size ((arrB ops.size m).setIfInBounds i true) ≤ fuel := by
      have := un_set (ops := ops) (arrB_size _ m) hlt hni
      omega
    rw [arrB_set hlt] at hun ⊢
    unfold wpOpIn
    rw [ho]
    dsimp only
    rw [if_pos (wanted_none hng _)]
    refine opX_soundρ hself hop ro' n hw (fun x _ hok => ev_rel hw ht hok) fun F v' w' h1 h2 => ?_
    obtain ⟨p1, p2⟩ := put_rel (ht.mono F) o.dst h2
    obtain ⟨E2, e1, e2, e3⟩ := hre.use hG h1 p1
    rw [take_app hk] at e1
    have hk2 : k ≤ E2.length := by
      have h9 := congrArg List.length e1
      rw [List.length_take, List.length_take] at h9
      omega
    exact ih _ E2 _ w' hg2 (e1.trans hE) hk2 e2 e3 (by rw [Act.put_dfr]; exact hd) hun
noncomputable def noW : OTask → Out QRes := fun _ => .fail
theorem noW_sound {P : Program} {G : Nat} : OSound P G noW := fun _ _ h => by cases h
section
variable (P : Program) (G : Nat) (C : Cfg) (f : Nat) (ops : Array Oper) (N : Nat) (live : Nat → List (Nat × Value)) (hp : Nat → List (CO × Bool)) (rho : Nat → List Nat) (ans conds : Nat → List Bool) (len : Nat → Nat)
def readyN (m : Nat) : List Nat := Region.ready .any ops (arrB ops.size m)
def trsN (states : List Nat) : List (Nat × Nat) := states.flatMap fun m => (readyN ops m).map fun i => (m, i)
def expN (t : Nat × Nat) : Option (List Bool × Bool × Nat × Nat × List Value × List (Option CO)) :=
  some (conds t.2, true, N, len t.2, (live (t.1 ||| 2 ^ t.2)).map (fun p => ren (rho t.2) 8 p.2), expH (rho t.2) (hp (t.1 ||| 2 ^ t.2)) (rho t.2))
def closedN (states : List Nat) (mF : Nat) : Bool :=
  (trsN ops states).all (fun t => memB (t.1 ||| 2 ^ t.2) states) && (states.all fun m => match readyN ops m with
    | [] => Nat.beq m mF
    | _ :: _ => true)
end
noncomputable def regE (L : LTab) (f0 id0 N k : Nat) (ops : Array Oper) (live0 : List (Nat × Value)) (hp0 : List (CO × Bool)) (o : Out QRes) : LTab := fun f id tm H df =>
  cond (Nat.beq f f0 && (Nat.beq id (id0 + 500000) && (Nat.beq tm.length N && (Nat.beq H.length k && isNil df)))) (some (.region id0 ops true, .same (reqT k live0 tm ++ reqH k hp0 H) o)) (L f id tm H df)
theorem LSound.region {P : Program} {G : Nat} {L : LTab} {f0 id0 N k : Nat} {ops : Array Oper} {live0 : List (Nat × Value)} {hp0 : List (CO × Bool)} {o : Out QRes} (hL : LSound P G L) (hgood : goodR k k live0 hp0 (List.range k) = true) (hflat : ∀ o, (o, true) ∈ hp0 → FlatO o)
    (h : ∀ r, o.sel = some r → ∀ ro (tm0 : Array Value) (H0 : CH), H0.length = k → Restate k tm0 H0 (absT (tmL N live0)) (heapL (hp0.map (·.1))) → Sound P G (.code (.region id0 ops true) ro tm0 H0 []) r.abs) : LSound P G (regE L f0 id0 N k ops live0 hp0 o) := by
  intro f id tm H df c o' r ro he hr
  unfold regE at he
  cases hc : (Nat.beq f f0 && (Nat.beq id (id0 + 500000) && (Nat.beq tm.length N && (Nat.beq H.length k && isNil df)))) with
  | false => rw [hc] at he; exact hL f id tm H df c o' r ro he hr
  | true =>
    rw [hc] at he
    cases he
    simp only [Bool.and_eq_true] at hc
    obtain ⟨_, _, h3, h4, h5⟩ := hc
    have hdf : df = [] := by cases df <;> first | rfl | cases h5
    subst hdf
    obtain ⟨hs, hsel⟩ := ifSame_some (k := o.sel) hr
    have hk := Nat.eq_of_beq_eq_true h4
    refine h r hsel ro (absT tm) H hk ?_
    unfold goodR at hgood
    simp only [Bool.and_eq_true, beq_iff_eq, decide_eq_true_eq] at hgood
    obtain ⟨g1, g2, g3, g4, g5, g6, g7⟩ := hgood
    refine restate_of (List.range k) live0 hp0 (Nat.eq_of_beq_eq_true h3) (Nat.eq_of_beq_eq_true g1) (Nat.le_of_ble_eq_true g2) g3 g4 (fun c hc => by rw [hk]; exact List.mem_range.1 hc) (reqT_of _ fun z hz => hs z (List.mem_append_left _ hz)) g6 ?_ g7 hflat
    exact pairsH_same _ _ (obsH_len _ _ _ _) fun z hz => hs z (List.mem_append_right _ hz)
end Go.Ex
/- Engine, part 39: orders, from a state in which the new blocks are not there. -/
noncomputable section
namespace Go.Ex
open Go.RowKit
theorem WR.dead {w0 : World} {G : Nat} {E : Env} {H : CH} {w : World} (h : WR w0 G E H w) (e : En) : WR w0 G (E ++ [e]) (H.push .dead) w := by
  have hE : ∀ {b : Nat} {x : En} {y : CO}, (E ++ [e])[b]? = some x → (H.push .dead)[b]? = some y → (E[b]? = some x ∧ H[b]? = some y) ∨ y = .dead := by
    intro b x y hx hy
    rcases push_some hy with hy | ⟨h3, h4⟩
    · rcases getElem?_snoc_some hx with hx | ⟨h1, h2⟩
      · exact .inl ⟨hx, hy⟩
      · have := Hp.lt hy; have := h.len; omega
    · exact .inr h4
  refine ⟨by simp [h.len, Hp.length_push], by simp; have := h.glen; omega, h.below, ?_, ?_, ?_, ?_⟩
  · intro b y x hy hx
    rcases hE hx hy with ⟨hx, hy⟩ | rfl
    · exact ORg.mono [e] (h.obj b y x hy hx)
    · exact trivial
  · intro b b' y y' x x' hGG hy hy' hx hx' ha ha' hblk
    rcases hE hx hy with ⟨hx1, hy1⟩ | rfl
    · rcases hE hx' hy' with ⟨hx1', hy1'⟩ | rfl
      · exact h.inj b b' y y' x x' hGG hy1 hy1' hx1 hx1' ha ha' hblk
      · cases ha'
    · cases ha
  · intro b y x hy hx ha hG
    rcases hE hx hy with ⟨hx, hy⟩ | rfl
    · exact h.new b y x hy hx ha hG
    · cases ha
  · refine ⟨h.old.1, fun b x hb hx => ?_⟩
    have hbl : b < E.length := by have := h.glen; have := h.old.1; omega
    rw [List.getElem?_append_left hbl] at hx
    exact h.old.2 b x hb hx
theorem heapL_snoc (l : List CO) (o : CO) : heapL (l ++ [o]) = (heapL l).push o := by unfold heapL; rw [List.foldl_append]; rfl
theorem WR.deads {w0 : World} {G : Nat} {w : World} {l : List CO} : ∀ (j : Nat) {E : Env}, WR w0 G E (heapL l) w → ∃ F, WR w0 G (E ++ F) (heapL (l ++ List.replicate j .dead)) w
  | 0, E, h => ⟨[], by simpa using h⟩
  | j + 1, E, h => by
    obtain ⟨F, hF⟩ := WR.deads j h
    refine ⟨F ++ [⟨0, 0, 0⟩], ?_⟩
    have hl : l ++ List.replicate (j + 1) CO.dead = (l ++ List.replicate j .dead) ++ [.dead] := by rw [List.replicate_succ', List.append_assoc]
    rw [hl, heapL_snoc, ← List.append_assoc]
    exact hF.dead _
theorem orders_sound2 {self : Task → Option Res} {P : Program} {G id : Nat} {ops : Array Oper} {Good : Nat → Prop} {tmS : Nat → Array Value} {HS : Nat → CH} {mF : Nat} (hself : SelfSound P G self) (hmix : P.follows .mixedOrders = true) {tm0 : Array Value} {H0 : CH} (h : Orders self P G ops H0.length Good tmS HS mF) (hG : G ≤ H0.length)
    (h0 : Good 0) {l : List CO} {j : Nat} (hl : HS 0 = heapL (l ++ List.replicate j .dead)) (hst : Restate H0.length tm0 H0 (tmS 0) (heapL l)) (ro : Option Nat) : Sound P G (.code (.region id ops true) ro tm0 H0 []) (.ex .normal (tmS mF) (HS mF) []) := by
  intro w0 E a w ro' n Q hw ht hd hr hq
  refine ⟨?_, fun b hb => by cases hb⟩
  have hlen := hw.len
  obtain ⟨E1, e1, e2, e3⟩ := hst.use hG hw ht
  have hk1 : H0.length ≤ E1.length := by
    have h9 := congrArg List.length e1
    rw [List.length_take, List.length_take] at h9
    omega
  obtain ⟨F, f2⟩ := WR.deads j e2
  rw [← hl] at f2
  refine wpIn_region_any hmix ?_
  rw [← arrB_zero]
  refine orders_any (w0 := w0) (E0 := E) (d0 := a.defers) hself h hG ro' n (fun E' a' w' h1 hk h2 h3 h4 => ?_) ops.size 0 (E1 ++ F) a _ h0 (by rw [take_app hk1]; exact e1) (by rw [List.length_append]; omega) (f2.draws _) (e3.mono F) rfl ?_
  · have hE : E'.take H0.length = E := by rw [h1, ← hlen]; exact List.take_length
    have hE' : E' = E ++ E'.drop H0.length := by
      conv => lhs; rw [← List.take_append_drop H0.length E', hE]
    rw [hE'] at h2 h3
    exact hq _ a' w' h2 h3 (by rw [h4]; exact hd.mono _)
  · unfold un
    have : ((List.range ops.size).countP fun i => !(arrB ops.size 0).getD i false) ≤ (List.range ops.size).length := List.countP_le_length
    simpa using this
end Go.Ex
/- Engine, part 41: a region whose order is open, with too many sets of operations to list: the state behind a set is told by truth values, and each operation is looked at once. -/
noncomputable section
namespace Go.Ex
open Go.RowKit
def preN (ops : Array Oper) (i : Nat) : List Nat :=
  match ops[i]? with
  | some o => (o.after.toList.filter fun e => Region.binds .any e).map (·.on)
  | none => []
theorem mem_preN {ops : Array Oper} {i j : Nat} {o : Oper} (ho : ops[i]? = some o) : j ∈ preN ops i ↔ ∃ e ∈ o.after, Region.binds .any e = true ∧ e.on = j := by
  unfold preN
  rw [ho]
  simp only [List.mem_map, List.mem_filter, Array.mem_toList_iff]
  constructor
  · rintro ⟨e, ⟨h1, h2⟩, h3⟩; exact ⟨e, h1, h2, h3⟩
  · rintro ⟨e, h1, h2, h3⟩; exact ⟨e, ⟨h1, h2⟩, h3⟩
def forceN (n : Nat) (pre : Nat → List Nat) (i : Nat) (B : List Bool) : List Bool :=
  (List.range n).map fun j => cond (Nat.beq j i) false (cond (memB j (pre i)) true (cond (memB i (pre j)) false (B.getD j false)))
structure SymS where
  live0 : List (Nat × Value)
  S : List (Nat × Nat × Value)
  hp0 : List (CO × Bool)
  A : List (Nat × CO × Nat × CO)
  A2 : List (Nat × CO × Nat × CO × Nat × CO) := []
  S2 : List (Nat × Nat × Value × Value) := []
  T : List (CO × Bool) := []
def SymS.live (s : SymS) (B : List Bool) : List (Nat × Value) := s.live0 ++ ((s.S.map fun q => (q.1, cond (B.getD q.2.1 false) q.2.2 wild)) ++ s.S2.map fun q => (q.1, cond (B.getD q.2.1 false) q.2.2.2 q.2.2.1))
def SymS.newB (s : SymS) (B : List Bool) : List CO := s.A.map fun q => cond (B.getD q.1 true) (cond (B.getD q.2.2.1 false) q.2.2.2 q.2.1) .dead
def SymS.newC (s : SymS) (B : List Bool) : List CO := s.A2.map fun q => cond (B.getD q.1 true) (cond (B.getD q.2.2.2.2.1 false) q.2.2.2.2.2 (cond (B.getD q.2.2.1 false) q.2.2.2.1 q.2.1)) .dead
def SymS.hp (s : SymS) (B : List Bool) : List CO := s.hp0.map (·.1) ++ (s.newB B ++ (s.newC B ++ s.T.map (·.1)))
section
variable (P : Program) (G : Nat) (C : Cfg) (f : Nat) (ops : Array Oper) (N : Nat) (s : SymS) (rho : Nat → List Nat) (ans conds : Nat → List Bool) (len : Nat → Nat)
noncomputable def outY (B : List Bool) (i : Nat) : Out (Value × CH) :=
  match ops[i]? with
  | some o => opO noW P G C f (tmL N (s.live B)) (heapL (s.hp B)) o
  | none => .fail
noncomputable def obsY (B : List Bool) (i : Nat) : Option (List Bool × Bool × Nat × Nat × List Value × List Value × List (Option CO)) :=
  match ops[i]? with
  | some o => match (outY P G C f ops N s B i).way (ans i) with
    | some x => some (x.1, o.guard.isNone, (putH (tmL N (s.live B)) o.dst x.2.1).length, x.2.2.length, s.live0.map (fun p => tval (putH (tmL N (s.live B)) o.dst x.2.1) p.1), (s.S.map (fun p => tval (putH (tmL N (s.live B)) o.dst x.2.1) p.1) ++ s.S2.map (fun p => tval (putH (tmL N (s.live B)) o.dst x.2.1) p.1)), (rho i).map fun c => x.2.2[c]?)
    | none => none
  | none => none
def expY (B : List Bool) (i : Nat) : Option (List Bool × Bool × Nat × Nat × List Value × List Value × List (Option CO)) :=
  some (conds i, true, N, len i, s.live0.map (·.2), (s.S.map (fun q => cond (Nat.beq q.2.1 i) (ren (rho i) 8 q.2.2) (cond (B.getD q.2.1 false) q.2.2 wild)) ++ s.S2.map (fun q => cond (Nat.beq q.2.1 i) (ren (rho i) 8 q.2.2.2) (cond (B.getD q.2.1 false) q.2.2.2 q.2.2.1))), (s.hp (B.set i true)).map some)
def goodY (k i : Nat) : Bool :=
  Nat.beq (rho i).length (s.hp0.length + (s.A.length + (s.A2.length + s.T.length))) && (Nat.ble k (rho i).length && (((rho i).take k == List.range k) && (decide (rho i).Nodup && ((rho i).all (fun c => Nat.blt c (len i)) && ((s.live0.all fun p => renOk (rho i) 8 p.2) && ((s.S.all fun q => renOk (rho i) 8 q.2.2) && ((s.hp0.all fun p => p.2 || renOkO (rho i) p.1) && ((s.S2.all fun q => renOk (rho i) 8 q.2.2.1 && renOk (rho i) 8 q.2.2.2) && s.T.all fun p => p.2 || renOkO (rho i) p.1))))))))
def backY : Bool := (List.range ops.size).all fun i => (preN ops i).all fun j => Nat.blt j i
end
def GoodY (ops : Array Oper) (B : List Bool) : Prop := B.length = ops.size ∧ ∀ i j, B.getD i false = true → j ∈ preN ops i → B.getD j false = true
theorem bitsL_len (n m : Nat) : (bitsL n m).length = n := by simp [bitsL]
theorem bitsL_getD (n m j : Nat) : (bitsL n m).getD j false = (decide (j < n) && Nat.testBit m j) := by
  unfold bitsL
  rw [List.getD_eq_getElem?_getD, List.getElem?_map]
  rcases Nat.lt_or_ge j n with h | h
  · rw [List.getElem?_range h]; simp [h]
  · rw [List.getElem?_eq_none (by simpa using h)]; simp [Nat.not_lt.2 h]
theorem getD_set_true {B : List Bool} {i : Nat} (hi : i < B.length) (j : Nat) : (B.set i true).getD j false = if i = j then true else B.getD j false := by
  rw [List.getD_eq_getElem?_getD, List.getElem?_set, List.getD_eq_getElem?_getD]
  by_cases h : i = j
  · subst h; rw [if_pos rfl, if_pos hi, if_pos rfl]; rfl
  · rw [if_neg h, if_neg h]
theorem force_eq {ops : Array Oper} {B : List Bool} {i : Nat} (hB : GoodY ops B) (hi : B.getD i false = false) (hp : ∀ j ∈ preN ops i, B.getD j false = true) : forceN ops.size (preN ops) i B = B := by
  apply List.ext_getElem?
  intro j
  unfold forceN
  rw [List.getElem?_map]
  rcases Nat.lt_or_ge j ops.size with h | h
  · rw [List.getElem?_range h]
    have hj : B[j]? = some (B.getD j false) := by
      have : j < B.length := by rw [hB.1]; exact h
      rw [List.getD_eq_getElem?_getD, List.getElem?_eq_getElem this]; rfl
    rw [hj]
    show some _ = some _
    congr 1
    dsimp only
    cases h1 : Nat.beq j i with
    | true => have := Nat.eq_of_beq_eq_true h1; subst this; exact hi.symm
    | false =>
      cases h2 : memB j (preN ops i) with
      | true => exact (hp j ((memB_iff _).1 h2)).symm
      | false =>
        cases h3 : memB i (preN ops j) with
        | true =>
          show false = _
          cases h4 : B.getD j false with
          | false => rfl
          | true =>
            have := hB.2 j i h4 ((memB_iff _).1 h3)
            rw [hi] at this; cases this
        | false => rfl
  · rw [List.getElem?_eq_none (by simpa using h), List.getElem?_eq_none (by rw [hB.1]; exact h)]; rfl
theorem lookL_app (l r : List (Nat × Value)) (i : Nat) : lookL (l ++ r) i = wild ∨ (∃ p ∈ l, p.1 = i ∧ lookL (l ++ r) i = p.2) ∨ ∃ p ∈ r, p.1 = i ∧ lookL (l ++ r) i = p.2 := by
  rcases lookL_mem (l ++ r) i with h | ⟨p, h1, h2, h3⟩
  · exact .inl h
  · rcases List.mem_append.1 h1 with h | h
    · exact .inr (.inl ⟨p, h, h2, h3⟩)
    · exact .inr (.inr ⟨p, h, h2, h3⟩)
theorem restate_sym {k N i : Nat} {tm1 : TM} {H1 : CH} {s : SymS} {ρ : List Nat} {B B' : List Bool} (hBB : ∀ j, j ≠ i → B'.getD j false = B.getD j false) (hN : tm1.length = N) (hρ : ρ.length = s.hp0.length + (s.A.length + (s.A2.length + s.T.length))) (hk : k ≤ ρ.length) (hid : ρ.take k = List.range k) (hnd : ρ.Nodup)
    (hlt : ∀ c ∈ ρ, c < H1.length) (h0 : s.live0.map (fun p => tval tm1 p.1) = s.live0.map (·.2)) (h0r : ∀ p ∈ s.live0, ren ρ 8 p.2 = p.2) (h0o : (s.live0.all fun p => renOk ρ 8 p.2) = true)
    (hS : s.S.map (fun p => tval tm1 p.1) = s.S.map fun q => cond (Nat.beq q.2.1 i) (ren ρ 8 q.2.2) (cond (B.getD q.2.1 false) q.2.2 wild)) (hSr : ∀ q ∈ s.S, q.2.1 ≠ i → B.getD q.2.1 false = true → ren ρ 8 q.2.2 = q.2.2) (hSo : (s.S.all fun q => renOk ρ 8 q.2.2) = true)
    (hS2 : s.S2.map (fun p => tval tm1 p.1) = s.S2.map fun q => cond (Nat.beq q.2.1 i) (ren ρ 8 q.2.2.2) (cond (B.getD q.2.1 false) q.2.2.2 q.2.2.1)) (hS2r : ∀ q ∈ s.S2, ren ρ 8 q.2.2.1 = q.2.2.1 ∧ (q.2.1 ≠ i → B.getD q.2.1 false = true → ren ρ 8 q.2.2.2 = q.2.2.2)) (hS2o : (s.S2.all fun q => renOk ρ 8 q.2.2.1 && renOk ρ 8 q.2.2.2) = true) (hBi : B'.getD i false = true)
    (hheap : ρ.map (fun c => H1[c]?) = (s.hp B').map some) (hro : ∀ p ∈ s.hp0, RO ρ p.1 p.1) (hroT : ∀ p ∈ s.T, RO ρ p.1 p.1) (hfl : ∀ q ∈ s.A, RO ρ q.2.1 q.2.1 ∧ (B'.getD q.2.2.1 false = true → RO ρ q.2.2.2 q.2.2.2)) (hfl2 : ∀ q ∈ s.A2, FlatO q.2.1 ∧ FlatO q.2.2.2.1 ∧ FlatO q.2.2.2.2.2) : Restate k (absT tm1) H1 (absT (tmL N (s.live B'))) (heapL (s.hp B')) := by
  have hlen : (s.hp B').length = ρ.length := by unfold SymS.hp SymS.newB SymS.newC; simp [hρ]
  refine ⟨ρ, by rw [heapL_len, hlen], hk, fun b hb => ?_, hnd, hlt, by rw [absT_size, absT_size, hN]; rfl, fun t x x' hx hx' => ?_, fun b c o hb hc ha => ?_⟩
  · have := congrArg (fun l => l[b]?) hid
    simp only [List.getElem?_take, if_pos hb, List.getElem?_range hb] at this
    exact this
  · rw [absT_get] at hx hx'
    split at hx'
    case isFalse => cases hx'
    rename_i hi
    cases hx'
    split at hx
    case isFalse => cases hx
    cases hx
    rw [tmL_val N _ (by omega)]
    unfold SymS.live
    rcases lookL_app s.live0 ((s.S.map fun q => (q.1, cond (B'.getD q.2.1 false) q.2.2 wild)) ++ s.S2.map fun q => (q.1, cond (B'.getD q.2.1 false) q.2.2.2 q.2.2.1)) t with h | ⟨p, h1, h2, h3⟩ | ⟨p, h1, h2, h3⟩
    · rw [h]; exact .wild
    · rw [h3]
      have h4 := map_eq_mem s.live0 h0 p h1
      try dsimp only at h4
      rw [h2] at h4
      rw [h4]
      have := ren_RN 8 p.2 (List.all_eq_true.1 h0o p h1)
      rw [h0r p h1] at this
      exact this
    · rw [h3]
      rcases List.mem_append.1 h1 with h1 | h1
      case inr =>
        obtain ⟨q, hq, rfl⟩ := List.mem_map.1 h1
        have h4 := map_eq_mem s.S2 hS2 q hq
        try dsimp only at h4
        try dsimp only at h2
        rw [h2] at h4
        rw [h4]
        have ho := List.all_eq_true.1 hS2o q hq
        rw [Bool.and_eq_true] at ho
        have hr1 := ren_RN 8 q.2.2.1 ho.1
        have hr2 := ren_RN 8 q.2.2.2 ho.2
        obtain ⟨e1, e2⟩ := hS2r q hq
        rw [e1] at hr1
        dsimp only
        cases hb : Nat.beq q.2.1 i with
        | true =>
          have hi := Nat.eq_of_beq_eq_true hb
          rw [hi, hBi]
          exact hr2
        | false =>
          have hne : q.2.1 ≠ i := fun h => by rw [h, Nat.beq_refl] at hb; cases hb
          rw [hBB _ hne]
          cases hBq : B.getD q.2.1 false with
          | true => rw [e2 hne hBq] at hr2; exact hr2
          | false => exact hr1
      obtain ⟨q, hq, rfl⟩ := List.mem_map.1 h1
      have h4 := map_eq_mem s.S hS q hq
      try dsimp only at h4
      try dsimp only at h2
      rw [h2] at h4
      rw [h4]
      have hr := ren_RN 8 q.2.2 (List.all_eq_true.1 hSo q hq)
      dsimp only
      cases hb : Nat.beq q.2.1 i with
      | true =>
        cases B'.getD q.2.1 false with
        | true => exact hr
        | false => exact .wild
      | false =>
        have hne : q.2.1 ≠ i := fun h => by rw [h, Nat.beq_refl] at hb; cases hb
        rw [hBB _ hne]
        cases hBq : B.getD q.2.1 false with
        | true => rw [hSr q hq hne hBq] at hr; exact hr
        | false => exact .wild
  · rw [heapL_get] at hb
    have h1 : H1[c]? = some o := by
      have h2 := congrArg (fun l => l[b]?) hheap
      simp only [List.getElem?_map, hb, hc, Option.map_some] at h2
      exact Option.some.inj h2
    refine ⟨o, h1, ?_⟩
    have hm := List.mem_of_getElem? hb
    unfold SymS.hp SymS.newB SymS.newC at hm
    rcases List.mem_append.1 hm with hm | hm
    · obtain ⟨p, hp, rfl⟩ := List.mem_map.1 hm
      exact hro p hp
    · rcases List.mem_append.1 hm with hm | hm
      · obtain ⟨q, hq, rfl⟩ := List.mem_map.1 hm
        cases B'.getD q.1 true with
        | false => exact .dead
        | true =>
          cases hB2 : B'.getD q.2.2.1 false with
          | true => exact (hfl q hq).2 hB2
          | false => exact (hfl q hq).1
      rcases List.mem_append.1 hm with hm | hm
      case inr =>
        obtain ⟨p, hp, rfl⟩ := List.mem_map.1 hm
        exact hroT p hp
      · obtain ⟨q, hq, rfl⟩ := List.mem_map.1 hm
        cases B'.getD q.1 true with
        | false => exact .dead
        | true =>
          cases B'.getD q.2.2.2.2.1 false with
          | true => exact flat_RO (hfl2 q hq).2.2
          | false =>
            cases B'.getD q.2.2.1 false with
            | true => exact flat_RO (hfl2 q hq).2.1
            | false => exact flat_RO (hfl2 q hq).1
theorem arrB_getD (n m j : Nat) : (arrB n m).getD j false = (bitsL n m).getD j false := by unfold arrB; simp [Array.getD_eq_getD_getElem?]
theorem sym_of {P : Program} {G : Nat} {C : Cfg} {f : Nat} {ops : Array Oper} {N : Nat} {s : SymS} {rho : Nat → List Nat} {ans conds : Nat → List Bool} {len : Nat → Nat} {k : Nat}
    (h1 : ∀ B : List Bool, B.length = ops.size → (List.range ops.size).map (fun i => outY P G C f ops N s (forceN ops.size (preN ops) i B) i) = (List.range ops.size).map fun i => (outY P G C f ops N s (forceN ops.size (preN ops) i B) i).fix)
    (h2 : ∀ B : List Bool, B.length = ops.size → (List.range ops.size).map (fun i => obsY P G C f ops N s rho ans (forceN ops.size (preN ops) i B) i) = (List.range ops.size).map fun i => expY N s rho conds len (forceN ops.size (preN ops) i B) i)
    (h3 : ∀ i, conds i = (ans i).take (conds i).length) (h4 : ((List.range ops.size).all fun i => goodY s rho len k i) = true) (h5 : backY ops = true)
    (h0r : (List.range ops.size).map (fun i => s.live0.map fun p => ren (rho i) 8 p.2) = (List.range ops.size).map fun _ => s.live0.map (·.2))
    (hSr : (List.range ops.size).map (fun i => s.S.map fun q => cond (Nat.beq q.2.1 i) q.2.2 (ren (rho i) 8 q.2.2)) = (List.range ops.size).map fun _ => s.S.map (·.2.2))
    (hBr : (List.range ops.size).map (fun i => s.hp0.map fun p => cond p.2 p.1 (renO (rho i) p.1)) = (List.range ops.size).map fun _ => s.hp0.map (·.1))
    (hf0 : ∀ o, (o, true) ∈ s.hp0 → FlatO o) (hfl : ∀ q ∈ s.A, FlatO q.2.1 ∧ FlatO q.2.2.2) (hfl2 : ∀ q ∈ s.A2, FlatO q.2.1 ∧ FlatO q.2.2.2.1 ∧ FlatO q.2.2.2.2.2 := by exact fun _ hq => absurd hq List.not_mem_nil)
    (hS2r : (List.range ops.size).map (fun i => s.S2.map fun q => (ren (rho i) 8 q.2.2.1, cond (Nat.beq q.2.1 i) q.2.2.2 (ren (rho i) 8 q.2.2.2))) = (List.range ops.size).map fun _ => s.S2.map fun q => (q.2.2.1, q.2.2.2) := by rfl)
    (hBrT : (List.range ops.size).map (fun i => s.T.map fun p => cond p.2 p.1 (renO (rho i) p.1)) = (List.range ops.size).map fun _ => s.T.map (·.1) := by rfl) (hfT : ∀ o, (o, true) ∈ s.T → FlatO o := by exact fun _ ho => absurd ho List.not_mem_nil) :
    Orders (selfA (qS noW)) P G ops k (fun m => m < 2 ^ ops.size ∧ GoodY ops (bitsL ops.size m)) (fun m => absT (tmL N (s.live (bitsL ops.size m)))) (fun m => heapL (s.hp (bitsL ops.size m))) (2 ^ ops.size - 1) := by
  refine ⟨fun m hm i hi => ?_, fun m hm hr => ?_⟩
  · obtain ⟨r1, o, ho, r2⟩ := mem_ready.1 hi
    have hlt : i < ops.size := (Array.getElem?_eq_some_iff.1 ho).1
    have hiB : (bitsL ops.size m).getD i false = false := by
      have := not_inD r1
      unfold inD at this
      rw [arrB_getD] at this
      simpa using this
    have hpre : ∀ j ∈ preN ops i, (bitsL ops.size m).getD j false = true := by
      intro j hj
      obtain ⟨e, e1, e2, rfl⟩ := (mem_preN ho).1 hj
      rw [← arrB_getD]
      exact r2 e e1 e2
    have hforce := force_eq hm.2 hiB hpre
    have hmem := List.mem_range.2 hlt
    have q1 := map_eq_mem _ (h1 (bitsL ops.size m) (bitsL_len _ _)) i hmem
    have q2 := map_eq_mem _ (h2 (bitsL ops.size m) (bitsL_len _ _)) i hmem
    have q4 := List.all_eq_true.1 h4 i hmem
    have q6 := map_eq_mem _ h0r i hmem
    have q7 := map_eq_mem _ hSr i hmem
    have q8 := map_eq_mem _ hBr i hmem
    have q9 := map_eq_mem _ hS2r i hmem
    try dsimp only at q9
    have q10 := map_eq_mem _ hBrT i hmem
    try dsimp only at q10
    try dsimp only at q1
    try dsimp only at q2
    try dsimp only at q6
    try dsimp only at q7
    try dsimp only at q8
    rw [hforce] at q1 q2
    unfold obsY expY at q2
    rw [ho] at q2
    dsimp only at q2
    split at q2
    case h_2 => cases q2
    rename_i x hx
    obtain ⟨cs, v, H1⟩ := x
    simp only [Option.some.injEq, Prod.mk.injEq] at q2
    obtain ⟨rfl, hng, hN, hlen, hl0, hlS', hheap⟩ := q2
    obtain ⟨hlS, hlS2⟩ := List.append_inj hlS' (by rw [List.length_map, List.length_map])
    have hsel := Out.way_sel q1 hx (h3 i)
    unfold outY at hsel
    rw [ho] at hsel
    have hop := opO_sel hsel
    unfold goodY at q4
    simp only [Bool.and_eq_true, beq_iff_eq, decide_eq_true_eq] at q4
    obtain ⟨g1, g2, g3, g4, g5, g6, g7, g8, g9, g10⟩ := q4
    have hil : i < (bitsL ops.size m).length := by rw [bitsL_len]; exact hlt
    have hset : (bitsL ops.size m).set i true = bitsL ops.size (m ||| 2 ^ i) := bitsL_set hlt
    rw [hset] at hheap
    have hget := getD_set_true hil
    rw [hset] at hget
    refine ⟨o, v, H1, ho, by simpa using hng, hop, ⟨Nat.or_lt_two_pow hm.1 (Nat.pow_lt_pow_right (by omega) hlt), bitsL_len _ _, fun a b ha hb => ?_⟩, ?_⟩
    · rw [hget] at ha ⊢
      by_cases hib : i = b
      · rw [if_pos hib]
      · rw [if_neg hib]
        by_cases hia : i = a
        · subst hia; exact hpre b hb
        · rw [if_neg hia] at ha; exact hm.2.2 a b ha hb
    · rw [← putH_abs]
      refine restate_sym (i := i) (ρ := rho i) (B := bitsL ops.size m) (fun j hj => by rw [hget, if_neg (fun h => hj h.symm)]) hN (Nat.eq_of_beq_eq_true g1) (Nat.le_of_ble_eq_true g2) g3 g4 (fun c hc => by rw [hlen]; exact blt_lt (List.all_eq_true.1 g5 c hc)) hl0 (fun p hp => map_eq_mem _ q6 p hp) g6 hlS (fun q hq hne _ => ?_) g7 hlS2 (fun q hq => ?_) g9 (by rw [hget, if_pos rfl]) hheap (fun p hp => ?_) (fun p hp => ?_) (fun q hq => ⟨flat_RO (hfl q hq).1, fun _ => flat_RO (hfl q hq).2⟩) hfl2
      · have := map_eq_mem _ q7 q hq
        rw [Bool.eq_false_iff.2 (fun h => hne (Nat.eq_of_beq_eq_true h))] at this
        exact this
      · have h5 := map_eq_mem _ q9 q hq
        try dsimp only at h5
        obtain ⟨h6, h7⟩ := Prod.mk.inj h5
        refine ⟨h6, fun hne _ => ?_⟩
        rw [Bool.eq_false_iff.2 (fun h => hne (Nat.eq_of_beq_eq_true h))] at h7
        exact h7
      · have h9 := map_eq_mem _ q8 p hp
        obtain ⟨o', fl⟩ := p
        cases fl with
        | true => exact flat_RO (hf0 o' hp)
        | false =>
          have hk := List.all_eq_true.1 g8 (o', false) hp
          have h8 := renO_RO (ρ := rho i) (o := o') (by simpa using hk)
          rw [show renO (rho i) o' = o' from h9] at h8
          exact h8
      · have h9 := map_eq_mem _ q10 p hp
        obtain ⟨o', fl⟩ := p
        cases fl with
        | true => exact flat_RO (hfT o' hp)
        | false =>
          have hk := List.all_eq_true.1 g10 (o', false) hp
          have h8 := renO_RO (ρ := rho i) (o := o') (by simpa using hk)
          rw [show renO (rho i) o' = o' from h9] at h8
          exact h8
  · have hall : ∀ i, i < ops.size → (bitsL ops.size m).getD i false = true := by
      intro i
      induction i using Nat.strongRecOn with
      | _ i ih =>
        intro hlt
        cases hb : (bitsL ops.size m).getD i false with
        | true => rfl
        | false =>
          exfalso
          have ho : ops[i]? = some ops[i] := Array.getElem?_eq_getElem hlt
          have hmem : i ∈ Region.ready .any ops (arrB ops.size m) := by
            refine mem_ready.2 ⟨?_, ops[i], ho, ?_⟩
            · rw [← arrB_getD] at hb
              have hsz : i < (arrB ops.size m).size := by rw [arrB_size]; exact hlt
              simpa [Array.getD_eq_getD_getElem?, Array.getElem?_eq_getElem hsz] using hb
            · intro e he hbd
              rw [arrB_getD]
              have hin := (mem_preN ho).2 ⟨e, he, hbd, rfl⟩
              have h6 := blt_lt (List.all_eq_true.1 (List.all_eq_true.1 h5 i (List.mem_range.2 hlt)) _ hin)
              exact ih _ h6 (by omega)
          rw [hr] at hmem
          cases hmem
    apply Nat.eq_of_testBit_eq
    intro i
    rw [Nat.testBit_two_pow_sub_one]
    rcases Nat.lt_or_ge i ops.size with h | h
    · have := hall i h
      rw [bitsL_getD] at this
      simpa [h] using this
    · have hlt : m < 2 ^ i := Nat.lt_of_lt_of_le hm.1 (Nat.pow_le_pow_right (by omega) h)
      rw [Nat.testBit_lt_two_pow hlt]; simp [Nat.not_lt.2 h]
theorem goodY_zero (ops : Array Oper) : 0 < 2 ^ ops.size ∧ GoodY ops (bitsL ops.size 0) := by
  refine ⟨Nat.two_pow_pos _, bitsL_len _ _, fun i j hi _ => ?_⟩
  rw [bitsL_getD] at hi
  simp at hi
end Go.Ex
/- Engine, part 52: EngOrd4's way for regions whose operations call what a table tells ('tabW'). -/
noncomputable section
namespace Go.Ex
open Go.RowKit
noncomputable def tabW (C : Cfg) : OTask → Out QRes := fun t =>
  match t with
  | .call f args H => tabA C f args H .fail
  | _ => .fail
theorem tabW_sound {P : Program} {G : Nat} {C : Cfg} (hT : TSound P G C.T) : OSound P G (tabW C) := by
  intro t r h
  cases t with
  | call f args H =>
    have h' : (tabA C f args H .fail).sel = some r := h
    have hfail : ∀ {q : QRes}, (Out.fail : Out QRes).sel = some q → False := fun h => by cases h
    unfold tabA at h'
    cases hf : Nat.blt f 1000000 with
    | false => rw [hf] at h'; exact (hfail h').elim
    | true =>
      rw [hf] at h'
      have hlt : f < 1000000 := by
        rw [blt_eq, decide_eq_true_eq] at hf
        exact hf
      rcases tabO_sel hT f (Nat.mod_eq_of_lt hlt) h' with g | g | g
      · exact g
      · rcases tabO_sel hT f (alt_mod f hlt).1 g with g | g | g
        · exact g
        · rcases tabO_sel hT f (alt_mod f hlt).2.1 g with g | g | g
          · exact g
          · rcases tabO_sel hT f (alt_mod f hlt).2.2 g with g | g | g
            · exact g
            · exact (hfail g).elim
            · exact (hfail g).elim
          · exact (hfail g).elim
        · exact (hfail g).elim
      · exact (hfail g).elim
  | code f c ro tm H df => cases h
  | round l args H => cases h
section
variable (w : OTask → Out QRes) (P : Program) (G : Nat) (C : Cfg) (f : Nat) (ops : Array Oper) (N : Nat) (s : SymS) (rho : Nat → List Nat) (ans : Nat → List Bool)
noncomputable def outV (B : List Bool) (i : Nat) : Out (Value × CH) :=
  match ops[i]? with
  | some o => opO w P G C f (tmL N (s.live B)) (heapL (s.hp B)) o
  | none => .fail
noncomputable def obsV (B : List Bool) (i : Nat) : Option (List Bool × Bool × Nat × Nat × List Value × List Value × List (Option CO)) :=
  match ops[i]? with
  | some o => match (outV w P G C f ops N s B i).way (ans i) with
    | some x => some (x.1, o.guard.isNone, (putH (tmL N (s.live B)) o.dst x.2.1).length, x.2.2.length, s.live0.map (fun p => tval (putH (tmL N (s.live B)) o.dst x.2.1) p.1), (s.S.map (fun p => tval (putH (tmL N (s.live B)) o.dst x.2.1) p.1) ++ s.S2.map (fun p => tval (putH (tmL N (s.live B)) o.dst x.2.1) p.1)), (rho i).map fun c => x.2.2[c]?)
    | none => none
  | none => none
end
theorem sym_ofW {w : OTask → Out QRes} {P : Program} {G : Nat} {C : Cfg} {f : Nat} {ops : Array Oper} {N : Nat} {s : SymS} {rho : Nat → List Nat} {ans conds : Nat → List Bool} {len : Nat → Nat} {k : Nat}
    (h1 : ∀ B : List Bool, B.length = ops.size → (List.range ops.size).map (fun i => outV w P G C f ops N s (forceN ops.size (preN ops) i B) i) = (List.range ops.size).map fun i => (outV w P G C f ops N s (forceN ops.size (preN ops) i B) i).fix)
    (h2 : ∀ B : List Bool, B.length = ops.size → (List.range ops.size).map (fun i => obsV w P G C f ops N s rho ans (forceN ops.size (preN ops) i B) i) = (List.range ops.size).map fun i => expY N s rho conds len (forceN ops.size (preN ops) i B) i)
    (h3 : ∀ i, conds i = (ans i).take (conds i).length) (h4 : ((List.range ops.size).all fun i => goodY s rho len k i) = true) (h5 : backY ops = true)
    (h0r : (List.range ops.size).map (fun i => s.live0.map fun p => ren (rho i) 8 p.2) = (List.range ops.size).map fun _ => s.live0.map (·.2))
    (hSr : (List.range ops.size).map (fun i => s.S.map fun q => cond (Nat.beq q.2.1 i) q.2.2 (ren (rho i) 8 q.2.2)) = (List.range ops.size).map fun _ => s.S.map (·.2.2))
    (hBr : (List.range ops.size).map (fun i => s.hp0.map fun p => cond p.2 p.1 (renO (rho i) p.1)) = (List.range ops.size).map fun _ => s.hp0.map (·.1))
    (hf0 : ∀ o, (o, true) ∈ s.hp0 → FlatO o) (hfl : ∀ q ∈ s.A, FlatO q.2.1 ∧ FlatO q.2.2.2) (hfl2 : ∀ q ∈ s.A2, FlatO q.2.1 ∧ FlatO q.2.2.2.1 ∧ FlatO q.2.2.2.2.2 := by exact fun _ hq => absurd hq List.not_mem_nil)
    (hS2r : (List.range ops.size).map (fun i => s.S2.map fun q => (ren (rho i) 8 q.2.2.1, cond (Nat.beq q.2.1 i) q.2.2.2 (ren (rho i) 8 q.2.2.2))) = (List.range ops.size).map fun _ => s.S2.map fun q => (q.2.2.1, q.2.2.2) := by rfl)
    (hBrT : (List.range ops.size).map (fun i => s.T.map fun p => cond p.2 p.1 (renO (rho i) p.1)) = (List.range ops.size).map fun _ => s.T.map (·.1) := by rfl) (hfT : ∀ o, (o, true) ∈ s.T → FlatO o := by exact fun _ ho => absurd ho List.not_mem_nil) :
    Orders (selfA (qS w)) P G ops k (fun m => m < 2 ^ ops.size ∧ GoodY ops (bitsL ops.size m)) (fun m => absT (tmL N (s.live (bitsL ops.size m)))) (fun m => heapL (s.hp (bitsL ops.size m))) (2 ^ ops.size - 1) := by
  refine ⟨fun m hm i hi => ?_, fun m hm hr => ?_⟩
  · obtain ⟨r1, o, ho, r2⟩ := mem_ready.1 hi
    have hlt : i < ops.size := (Array.getElem?_eq_some_iff.1 ho).1
    have hiB : (bitsL ops.size m).getD i false = false := by
      have := not_inD r1
      unfold inD at this
      rw [arrB_getD] at this
      simpa using this
    have hpre : ∀ j ∈ preN ops i, (bitsL ops.size m).getD j false = true := by
      intro j hj
      obtain ⟨e, e1, e2, rfl⟩ := (mem_preN ho).1 hj
      rw [← arrB_getD]
      exact r2 e e1 e2
    have hforce := force_eq hm.2 hiB hpre
    have hmem := List.mem_range.2 hlt
    have q1 := map_eq_mem _ (h1 (bitsL ops.size m) (bitsL_len _ _)) i hmem
    have q2 := map_eq_mem _ (h2 (bitsL ops.size m) (bitsL_len _ _)) i hmem
    have q4 := List.all_eq_true.1 h4 i hmem
    have q6 := map_eq_mem _ h0r i hmem
    have q7 := map_eq_mem _ hSr i hmem
    have q8 := map_eq_mem _ hBr i hmem
    have q9 := map_eq_mem _ hS2r i hmem
    try dsimp only at q9
    have q10 := map_eq_mem _ hBrT i hmem
    try dsimp only at q10
    try dsimp only at q1
    try dsimp only at q2
    try dsimp only at q6
    try dsimp only at q7
    try dsimp only at q8
    rw [hforce] at q1 q2
    unfold obsV expY at q2
    rw [ho] at q2
    dsimp only at q2
    split at q2
    case h_2 => cases q2
    rename_i x hx
    obtain ⟨cs, v, H1⟩ := x
    simp only [Option.some.injEq, Prod.mk.injEq] at q2
    obtain ⟨rfl, hng, hN, hlen, hl0, hlS', hheap⟩ := q2
    obtain ⟨hlS, hlS2⟩ := List.append_inj hlS' (by rw [List.length_map, List.length_map])
    have hsel := Out.way_sel q1 hx (h3 i)
    unfold outV at hsel
    rw [ho] at hsel
    have hop := opO_sel hsel
    unfold goodY at q4
    simp only [Bool.and_eq_true, beq_iff_eq, decide_eq_true_eq] at q4
    obtain ⟨g1, g2, g3, g4, g5, g6, g7, g8, g9, g10⟩ := q4
    have hil : i < (bitsL ops.size m).length := by rw [bitsL_len]; exact hlt
    have hset : (bitsL ops.size m).set i true = bitsL ops.size (m ||| 2 ^ i) := bitsL_set hlt
    rw [hset] at hheap
    have hget := getD_set_true hil
    rw [hset] at hget
    refine ⟨o, v, H1, ho, by simpa using hng, hop, ⟨Nat.or_lt_two_pow hm.1 (Nat.pow_lt_pow_right (by omega) hlt), bitsL_len _ _, fun a b ha hb => ?_⟩, ?_⟩
    · rw [hget] at ha ⊢
      by_cases hib : i = b
      · rw [if_pos hib]
      · rw [if_neg hib]
        by_cases hia : i = a
        · subst hia; exact hpre b hb
        · rw [if_neg hia] at ha; exact hm.2.2 a b ha hb
    · rw [← putH_abs]
      refine restate_sym (i := i) (ρ := rho i) (B := bitsL ops.size m) (fun j hj => by rw [hget, if_neg (fun h => hj h.symm)]) hN (Nat.eq_of_beq_eq_true g1) (Nat.le_of_ble_eq_true g2) g3 g4 (fun c hc => by rw [hlen]; exact blt_lt (List.all_eq_true.1 g5 c hc)) hl0 (fun p hp => map_eq_mem _ q6 p hp) g6 hlS (fun q hq hne _ => ?_) g7 hlS2 (fun q hq => ?_) g9 (by rw [hget, if_pos rfl]) hheap (fun p hp => ?_) (fun p hp => ?_) (fun q hq => ⟨flat_RO (hfl q hq).1, fun _ => flat_RO (hfl q hq).2⟩) hfl2
      · have := map_eq_mem _ q7 q hq
        rw [Bool.eq_false_iff.2 (fun h => hne (Nat.eq_of_beq_eq_true h))] at this
        exact this
      · have h5 := map_eq_mem _ q9 q hq
        try dsimp only at h5
        obtain ⟨h6, h7⟩ := Prod.mk.inj h5
        refine ⟨h6, fun hne _ => ?_⟩
        rw [Bool.eq_false_iff.2 (fun h => hne (Nat.eq_of_beq_eq_true h))] at h7
        exact h7
      · have h9 := map_eq_mem _ q8 p hp
        obtain ⟨o', fl⟩ := p
        cases fl with
        | true => exact flat_RO (hf0 o' hp)
        | false =>
          have hk := List.all_eq_true.1 g8 (o', false) hp
          have h8 := renO_RO (ρ := rho i) (o := o') (by simpa using hk)
          rw [show renO (rho i) o' = o' from h9] at h8
          exact h8
      · have h9 := map_eq_mem _ q10 p hp
        obtain ⟨o', fl⟩ := p
        cases fl with
        | true => exact flat_RO (hfT o' hp)
        | false =>
          have hk := List.all_eq_true.1 g10 (o', false) hp
          have h8 := renO_RO (ρ := rho i) (o := o') (by simpa using hk)
          rw [show renO (rho i) o' = o' from h9] at h8
          exact h8
  · have hall : ∀ i, i < ops.size → (bitsL ops.size m).getD i false = true := by
      intro i
      induction i using Nat.strongRecOn with
      | _ i ih =>
        intro hlt
        cases hb : (bitsL ops.size m).getD i false with
        | true => rfl
        | false =>
          exfalso
          have ho : ops[i]? = some ops[i] := Array.getElem?_eq_getElem hlt
          have hmem : i ∈ Region.ready .any ops (arrB ops.size m) := by
            refine mem_ready.2 ⟨?_, ops[i], ho, ?_⟩
            · rw [← arrB_getD] at hb
              have hsz : i < (arrB ops.size m).size := by rw [arrB_size]; exact hlt
              simpa [Array.getD_eq_getD_getElem?, Array.getElem?_eq_getElem hsz] using hb
            · intro e he hbd
              rw [arrB_getD]
              have hin := (mem_preN ho).2 ⟨e, he, hbd, rfl⟩
              have h6 := blt_lt (List.all_eq_true.1 (List.all_eq_true.1 h5 i (List.mem_range.2 hlt)) _ hin)
              exact ih _ h6 (by omega)
          rw [hr] at hmem
          cases hmem
    apply Nat.eq_of_testBit_eq
    intro i
    rw [Nat.testBit_two_pow_sub_one]
    rcases Nat.lt_or_ge i ops.size with h | h
    · have := hall i h
      rw [bitsL_getD] at this
      simpa [h] using this
    · have hlt : m < 2 ^ i := Nat.lt_of_lt_of_le hm.1 (Nat.pow_le_pow_right (by omega) h)
      rw [Nat.testBit_lt_two_pow hlt]; simp [Nat.not_lt.2 h]
theorem force_eqP {n : Nat} {pre : Nat → List Nat} {B : List Bool} {i : Nat} (hn : B.length = n) (hB : ∀ i j, B.getD i false = true → j ∈ pre i → B.getD j false = true) (hi : B.getD i false = false) (hp : ∀ j ∈ pre i, B.getD j false = true) : forceN n pre i B = B := by
  apply List.ext_getElem?
  intro j
  unfold forceN
  rw [List.getElem?_map]
  rcases Nat.lt_or_ge j n with h | h
  · rw [List.getElem?_range h]
    have hj : B[j]? = some (B.getD j false) := by
      have : j < B.length := by rw [hn]; exact h
      rw [List.getD_eq_getElem?_getD, List.getElem?_eq_getElem this]; rfl
    rw [hj]
    show some _ = some _
    congr 1
    dsimp only
    cases h1 : Nat.beq j i with
    | true => have := Nat.eq_of_beq_eq_true h1; subst this; exact hi.symm
    | false =>
      cases h2 : memB j (pre i) with
      | true => exact (hp j ((memB_iff _).1 h2)).symm
      | false =>
        cases h3 : memB i (pre j) with
        | true =>
          show false = _
          cases h4 : B.getD j false with
          | false => rfl
          | true =>
            have := hB j i h4 ((memB_iff _).1 h3)
            rw [hi] at this; cases this
        | false => rfl
  · rw [List.getElem?_eq_none (by simpa using h), List.getElem?_eq_none (by rw [hn]; exact h)]; rfl
def pre2 (ops : Array Oper) (i : Nat) : List Nat := preN ops i ++ (preN ops i).flatMap (preN ops)
theorem sym_of3 {w : OTask → Out QRes} {P : Program} {G : Nat} {C : Cfg} {f : Nat} {ops : Array Oper} {N : Nat} {s : SymS} {rho : Nat → List Nat} {ans conds : Nat → List Bool} {len : Nat → Nat} {k : Nat}
    (h1 : ∀ B : List Bool, B.length = ops.size → (List.range ops.size).map (fun i => outV w P G C f ops N s (forceN ops.size (pre2 ops) i B) i) = (List.range ops.size).map fun i => (outV w P G C f ops N s (forceN ops.size (pre2 ops) i B) i).fix)
    (h2 : ∀ B : List Bool, B.length = ops.size → (List.range ops.size).map (fun i => obsV w P G C f ops N s rho ans (forceN ops.size (pre2 ops) i B) i) = (List.range ops.size).map fun i => expY N s rho conds len (forceN ops.size (pre2 ops) i B) i)
    (h3 : ∀ i, conds i = (ans i).take (conds i).length) (h4 : ((List.range ops.size).all fun i => goodY s rho len k i) = true) (h5 : backY ops = true)
    (h0r : (List.range ops.size).map (fun i => s.live0.map fun p => ren (rho i) 8 p.2) = (List.range ops.size).map fun _ => s.live0.map (·.2))
    (hSr : (List.range ops.size).map (fun i => s.S.map fun q => cond (Nat.beq q.2.1 i || memB i (pre2 ops q.2.1)) q.2.2 (ren (rho i) 8 q.2.2)) = (List.range ops.size).map fun _ => s.S.map (·.2.2))
    (hBr : (List.range ops.size).map (fun i => s.hp0.map fun p => cond p.2 p.1 (renO (rho i) p.1)) = (List.range ops.size).map fun _ => s.hp0.map (·.1))
    (hf0 : ∀ o, (o, true) ∈ s.hp0 → FlatO o) (hfl : ∀ i, i < ops.size → ∀ q ∈ s.A, RO (rho i) q.2.1 q.2.1 ∧ (RO (rho i) q.2.2.2 q.2.2.2 ∨ memB i (pre2 ops q.2.2.1) = true ∧ q.2.2.1 ≠ i)) (hfl2 : ∀ q ∈ s.A2, FlatO q.2.1 ∧ FlatO q.2.2.2.1 ∧ FlatO q.2.2.2.2.2 := by exact fun _ hq => absurd hq List.not_mem_nil)
    (hS2r : (List.range ops.size).map (fun i => s.S2.map fun q => (ren (rho i) 8 q.2.2.1, cond (Nat.beq q.2.1 i || memB i (pre2 ops q.2.1)) q.2.2.2 (ren (rho i) 8 q.2.2.2))) = (List.range ops.size).map fun _ => s.S2.map fun q => (q.2.2.1, q.2.2.2) := by rfl)
    (hBrT : (List.range ops.size).map (fun i => s.T.map fun p => cond p.2 p.1 (renO (rho i) p.1)) = (List.range ops.size).map fun _ => s.T.map (·.1) := by rfl) (hfT : ∀ o, (o, true) ∈ s.T → FlatO o := by exact fun _ ho => absurd ho List.not_mem_nil) :
    Orders (selfA (qS w)) P G ops k (fun m => m < 2 ^ ops.size ∧ GoodY ops (bitsL ops.size m)) (fun m => absT (tmL N (s.live (bitsL ops.size m)))) (fun m => heapL (s.hp (bitsL ops.size m))) (2 ^ ops.size - 1) := by
  refine ⟨fun m hm i hi => ?_, fun m hm hr => ?_⟩
  · obtain ⟨r1, o, ho, r2⟩ := mem_ready.1 hi
    have hlt : i < ops.size := (Array.getElem?_eq_some_iff.1 ho).1
    have hiB : (bitsL ops.size m).getD i false = false := by
      have := not_inD r1
      unfold inD at this
      rw [arrB_getD] at this
      simpa using this
    have hpre : ∀ j ∈ preN ops i, (bitsL ops.size m).getD j false = true := by
      intro j hj
      obtain ⟨e, e1, e2, rfl⟩ := (mem_preN ho).1 hj
      rw [← arrB_getD]
      exact r2 e e1 e2
    have hcl : ∀ a b, (bitsL ops.size m).getD a false = true → b ∈ pre2 ops a → (bitsL ops.size m).getD b false = true := fun a b ha hb => by
      rcases List.mem_append.1 hb with hb | hb
      · exact hm.2.2 a b ha hb
      · obtain ⟨c, hc, hb⟩ := List.mem_flatMap.1 hb
        exact hm.2.2 c b (hm.2.2 a c ha hc) hb
    have hforce := force_eqP (pre := pre2 ops) hm.2.1 hcl hiB (fun j hj => by
      rcases List.mem_append.1 hj with hj | hj
      · exact hpre j hj
      · obtain ⟨c, hc, hj⟩ := List.mem_flatMap.1 hj
        exact hm.2.2 c j (hpre c hc) hj)
    have hmemF : ∀ {a : Nat}, (bitsL ops.size m).getD a false = true → memB i (pre2 ops a) = false := fun {a} ha => by
      cases hh : memB i (pre2 ops a) with
      | false => rfl
      | true =>
        have := hcl a i ha ((memB_iff _).1 hh)
        rw [hiB] at this; cases this
    have hmem := List.mem_range.2 hlt
    have q1 := map_eq_mem _ (h1 (bitsL ops.size m) (bitsL_len _ _)) i hmem
    have q2 := map_eq_mem _ (h2 (bitsL ops.size m) (bitsL_len _ _)) i hmem
    have q4 := List.all_eq_true.1 h4 i hmem
    have q6 := map_eq_mem _ h0r i hmem
    have q7 := map_eq_mem _ hSr i hmem
    have q8 := map_eq_mem _ hBr i hmem
    have q9 := map_eq_mem _ hS2r i hmem
    try dsimp only at q9
    have q10 := map_eq_mem _ hBrT i hmem
    try dsimp only at q10
    try dsimp only at q1
    try dsimp only at q2
    try dsimp only at q6
    try dsimp only at q7
    try dsimp only at q8
    rw [hforce] at q1 q2
    unfold obsV expY at q2
    rw [ho] at q2
    dsimp only at q2
    split at q2
    case h_2 => cases q2
    rename_i x hx
    obtain ⟨cs, v, H1⟩ := x
    simp only [Option.some.injEq, Prod.mk.injEq] at q2
    obtain ⟨rfl, hng, hN, hlen, hl0, hlS', hheap⟩ := q2
    obtain ⟨hlS, hlS2⟩ := List.append_inj hlS' (by rw [List.length_map, List.length_map])
    have hsel := Out.way_sel q1 hx (h3 i)
    unfold outV at hsel
    rw [ho] at hsel
    have hop := opO_sel hsel
    unfold goodY at q4
    simp only [Bool.and_eq_true, beq_iff_eq, decide_eq_true_eq] at q4
    obtain ⟨g1, g2, g3, g4, g5, g6, g7, g8, g9, g10⟩ := q4
    have hil : i < (bitsL ops.size m).length := by rw [bitsL_len]; exact hlt
    have hset : (bitsL ops.size m).set i true = bitsL ops.size (m ||| 2 ^ i) := bitsL_set hlt
    rw [hset] at hheap
    have hget := getD_set_true hil
    rw [hset] at hget
    refine ⟨o, v, H1, ho, by simpa using hng, hop, ⟨Nat.or_lt_two_pow hm.1 (Nat.pow_lt_pow_right (by omega) hlt), bitsL_len _ _, fun a b ha hb => ?_⟩, ?_⟩
    · rw [hget] at ha ⊢
      by_cases hib : i = b
      · rw [if_pos hib]
      · rw [if_neg hib]
        by_cases hia : i = a
        · subst hia; exact hpre b hb
        · rw [if_neg hia] at ha; exact hm.2.2 a b ha hb
    · rw [← putH_abs]
      refine restate_sym (i := i) (ρ := rho i) (B := bitsL ops.size m) (fun j hj => by rw [hget, if_neg (fun h => hj h.symm)]) hN (Nat.eq_of_beq_eq_true g1) (Nat.le_of_ble_eq_true g2) g3 g4 (fun c hc => by rw [hlen]; exact blt_lt (List.all_eq_true.1 g5 c hc)) hl0 (fun p hp => map_eq_mem _ q6 p hp) g6 hlS (fun q hq hne hB => ?_) g7 hlS2 (fun q hq => ?_) g9 (by rw [hget, if_pos rfl]) hheap (fun p hp => ?_) (fun p hp => ?_) (fun q hq => ⟨(hfl i hlt q hq).1, fun hB' => (hfl i hlt q hq).2.resolve_right fun hh => by
        rw [hget, if_neg (fun h => hh.2 h.symm)] at hB'
        rw [hmemF hB'] at hh
        exact absurd hh.1 (by decide)⟩) hfl2
      · have := map_eq_mem _ q7 q hq
        rw [Bool.eq_false_iff.2 (fun h => hne (Nat.eq_of_beq_eq_true h)), Bool.false_or, hmemF hB] at this
        exact this
      · have h5 := map_eq_mem _ q9 q hq
        try dsimp only at h5
        obtain ⟨h6, h7⟩ := Prod.mk.inj h5
        refine ⟨h6, fun hne hB => ?_⟩
        rw [Bool.eq_false_iff.2 (fun h => hne (Nat.eq_of_beq_eq_true h)), Bool.false_or, hmemF hB] at h7
        exact h7
      · have h9 := map_eq_mem _ q8 p hp
        obtain ⟨o', fl⟩ := p
        cases fl with
        | true => exact flat_RO (hf0 o' hp)
        | false =>
          have hk := List.all_eq_true.1 g8 (o', false) hp
          have h8 := renO_RO (ρ := rho i) (o := o') (by simpa using hk)
          rw [show renO (rho i) o' = o' from h9] at h8
          exact h8
      · have h9 := map_eq_mem _ q10 p hp
        obtain ⟨o', fl⟩ := p
        cases fl with
        | true => exact flat_RO (hfT o' hp)
        | false =>
          have hk := List.all_eq_true.1 g10 (o', false) hp
          have h8 := renO_RO (ρ := rho i) (o := o') (by simpa using hk)
          rw [show renO (rho i) o' = o' from h9] at h8
          exact h8
  · have hall : ∀ i, i < ops.size → (bitsL ops.size m).getD i false = true := by
      intro i
      induction i using Nat.strongRecOn with
      | _ i ih =>
        intro hlt
        cases hb : (bitsL ops.size m).getD i false with
        | true => rfl
        | false =>
          exfalso
          have ho : ops[i]? = some ops[i] := Array.getElem?_eq_getElem hlt
          have hmem : i ∈ Region.ready .any ops (arrB ops.size m) := by
            refine mem_ready.2 ⟨?_, ops[i], ho, ?_⟩
            · rw [← arrB_getD] at hb
              have hsz : i < (arrB ops.size m).size := by rw [arrB_size]; exact hlt
              simpa [Array.getD_eq_getD_getElem?, Array.getElem?_eq_getElem hsz] using hb
            · intro e he hbd
              rw [arrB_getD]
              have hin := (mem_preN ho).2 ⟨e, he, hbd, rfl⟩
              have h6 := blt_lt (List.all_eq_true.1 (List.all_eq_true.1 h5 i (List.mem_range.2 hlt)) _ hin)
              exact ih _ h6 (by omega)
          rw [hr] at hmem
          cases hmem
    apply Nat.eq_of_testBit_eq
    intro i
    rw [Nat.testBit_two_pow_sub_one]
    rcases Nat.lt_or_ge i ops.size with h | h
    · have := hall i h
      rw [bitsL_getD] at this
      simpa [h] using this
    · have hlt : m < 2 ^ i := Nat.lt_of_lt_of_le hm.1 (Nat.pow_le_pow_right (by omega) h)
      rw [Nat.testBit_lt_two_pow hlt]; simp [Nat.not_lt.2 h]
theorem sym_of2 {w : OTask → Out QRes} {P : Program} {G : Nat} {C : Cfg} {f : Nat} {ops : Array Oper} {N : Nat} {s : SymS} {rho : Nat → List Nat} {ans conds : Nat → List Bool} {len : Nat → Nat} {k : Nat}
    (h1 : ∀ B : List Bool, B.length = ops.size → (List.range ops.size).map (fun i => outV w P G C f ops N s (forceN ops.size (pre2 ops) i B) i) = (List.range ops.size).map fun i => (outV w P G C f ops N s (forceN ops.size (pre2 ops) i B) i).fix)
    (h2 : ∀ B : List Bool, B.length = ops.size → (List.range ops.size).map (fun i => obsV w P G C f ops N s rho ans (forceN ops.size (pre2 ops) i B) i) = (List.range ops.size).map fun i => expY N s rho conds len (forceN ops.size (pre2 ops) i B) i)
    (h3 : ∀ i, conds i = (ans i).take (conds i).length) (h4 : ((List.range ops.size).all fun i => goodY s rho len k i) = true) (h5 : backY ops = true)
    (h0r : (List.range ops.size).map (fun i => s.live0.map fun p => ren (rho i) 8 p.2) = (List.range ops.size).map fun _ => s.live0.map (·.2))
    (hSr : (List.range ops.size).map (fun i => s.S.map fun q => cond (Nat.beq q.2.1 i || memB i (pre2 ops q.2.1)) q.2.2 (ren (rho i) 8 q.2.2)) = (List.range ops.size).map fun _ => s.S.map (·.2.2))
    (hBr : (List.range ops.size).map (fun i => s.hp0.map fun p => cond p.2 p.1 (renO (rho i) p.1)) = (List.range ops.size).map fun _ => s.hp0.map (·.1))
    (hf0 : ∀ o, (o, true) ∈ s.hp0 → FlatO o) (hfl : ∀ q ∈ s.A, FlatO q.2.1 ∧ FlatO q.2.2.2) (hfl2 : ∀ q ∈ s.A2, FlatO q.2.1 ∧ FlatO q.2.2.2.1 ∧ FlatO q.2.2.2.2.2 := by exact fun _ hq => absurd hq List.not_mem_nil)
    (hS2r : (List.range ops.size).map (fun i => s.S2.map fun q => (ren (rho i) 8 q.2.2.1, cond (Nat.beq q.2.1 i || memB i (pre2 ops q.2.1)) q.2.2.2 (ren (rho i) 8 q.2.2.2))) = (List.range ops.size).map fun _ => s.S2.map fun q => (q.2.2.1, q.2.2.2) := by rfl)
    (hBrT : (List.range ops.size).map (fun i => s.T.map fun p => cond p.2 p.1 (renO (rho i) p.1)) = (List.range ops.size).map fun _ => s.T.map (·.1) := by rfl) (hfT : ∀ o, (o, true) ∈ s.T → FlatO o := by exact fun _ ho => absurd ho List.not_mem_nil) :
    Orders (selfA (qS w)) P G ops k (fun m => m < 2 ^ ops.size ∧ GoodY ops (bitsL ops.size m)) (fun m => absT (tmL N (s.live (bitsL ops.size m)))) (fun m => heapL (s.hp (bitsL ops.size m))) (2 ^ ops.size - 1) :=
  sym_of3 h1 h2 h3 h4 h5 h0r hSr hBr hf0 (fun _ _ q hq => ⟨flat_RO (hfl q hq).1, .inl (flat_RO (hfl q hq).2)⟩) hfl2 hS2r hBrT hfT
end Go.Ex
/- Engine, part 55: orders of regions that hold calls told by a table. -/
noncomputable section
namespace Go.Ex
open Go.RowKit
section
variable (w : OTask → Out QRes) (P : Program) (G : Nat) (C : Cfg) (f : Nat) (ops : Array Oper) (N : Nat) (live : Nat → List (Nat × Value)) (hp : Nat → List (CO × Bool)) (rho : Nat → List Nat) (ans conds : Nat → List Bool) (len : Nat → Nat)
noncomputable def outW (t : Nat × Nat) : Out (Value × CH) :=
  match ops[t.2]? with
  | some o => opO w P G C f (tmL N (live t.1)) (heapL ((hp t.1).map (·.1))) o
  | none => .fail
noncomputable def obsW (t : Nat × Nat) : Option (List Bool × Bool × Nat × Nat × List Value × List (Option CO)) :=
  match ops[t.2]? with
  | some o => match (outW w P G C f ops N live hp t).way (ans t.2) with
    | some x => some (x.1, o.guard.isNone, (putH (tmL N (live t.1)) o.dst x.2.1).length, x.2.2.length, (live (t.1 ||| 2 ^ t.2)).map (fun p => tval (putH (tmL N (live t.1)) o.dst x.2.1) p.1), obsH x.2.2 (hp (t.1 ||| 2 ^ t.2)) (rho t.2))
    | none => none
  | none => none
end
theorem orders_ofW {w : OTask → Out QRes} {P : Program} {G : Nat} {C : Cfg} {f : Nat} {ops : Array Oper} {N : Nat} {live : Nat → List (Nat × Value)} {hp : Nat → List (CO × Bool)} {rho : Nat → List Nat} {ans conds : Nat → List Bool} {len : Nat → Nat} {k mF : Nat} (states : List Nat)
    (h1 : (trsN ops states).map (outW w P G C f ops N live hp) = (trsN ops states).map fun t => (outW w P G C f ops N live hp t).fix) (h2 : (trsN ops states).map (obsW w P G C f ops N live hp rho ans) = (trsN ops states).map (expN N live hp rho conds len))
    (h3 : ∀ i, conds i = (ans i).take (conds i).length) (h4 : ((trsN ops states).all fun t => goodR k (len t.2) (live (t.1 ||| 2 ^ t.2)) (hp (t.1 ||| 2 ^ t.2)) (rho t.2)) = true) (h5 : closedN ops states mF = true) (h6 : ∀ m o, (o, true) ∈ hp m → FlatO o) :
    Orders (selfA (qS w)) P G ops k (fun m => m ∈ states) (fun m => absT (tmL N (live m))) (fun m => heapL ((hp m).map (·.1))) mF := by
  unfold closedN at h5
  rw [Bool.and_eq_true] at h5
  refine ⟨fun m hm i hi => ?_, fun m hm hr => ?_⟩
  · have hmem : (m, i) ∈ trsN ops states := by
      unfold trsN
      rw [List.mem_flatMap]
      exact ⟨m, hm, List.mem_map.2 ⟨i, hi, rfl⟩⟩
    have q1 := map_eq_mem _ h1 (m, i) hmem
    have q2 := map_eq_mem _ h2 (m, i) hmem
    have q4 := List.all_eq_true.1 h4 (m, i) hmem
    have q5 := List.all_eq_true.1 h5.1 (m, i) hmem
    dsimp only at q4 q5
    unfold obsW expN at q2
    dsimp only at q2
    split at q2
    case h_2 => cases q2
    rename_i o ho
    split at q2
    case h_2 => cases q2
    rename_i x hx
    obtain ⟨cs, v, H1⟩ := x
    simp only [Option.some.injEq, Prod.mk.injEq] at q2
    obtain ⟨rfl, hng, hN, hlen, hlive, hheap⟩ := q2
    have hsel := Out.way_sel q1 hx (h3 i)
    unfold outW at hsel
    dsimp only at hsel
    rw [ho] at hsel
    have hop := opO_sel hsel
    unfold goodR at q4
    simp only [Bool.and_eq_true, beq_iff_eq, decide_eq_true_eq] at q4
    obtain ⟨g1, g2, g3, g4, g5, g6, g7⟩ := q4
    refine ⟨o, v, H1, ho, by simpa using hng, hop, (memB_iff _).1 q5, ?_⟩
    rw [← putH_abs]
    refine restate_of (rho i) (live (m ||| 2 ^ i)) (hp (m ||| 2 ^ i)) hN (Nat.eq_of_beq_eq_true g1) (Nat.le_of_ble_eq_true g2) g3 g4 (fun c hc => ?_) hlive g6 hheap g7 (h6 _)
    rw [hlen]
    exact blt_lt (List.all_eq_true.1 g5 c hc)
  · have := List.all_eq_true.1 h5.2 m hm
    have hr' : readyN ops m = [] := hr
    rw [hr'] at this
    exact Nat.eq_of_beq_eq_true this
end Go.Ex
