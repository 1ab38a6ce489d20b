/- Engine, part 39: orders, from a state in which the new blocks are not there. -/
import Derived.Test.YtbocpikgochioaaDoorEngOrd
noncomputable section
namespace Go.Ex
open Go.RowKit
/-- a number for a block that is not there -/
theorem WR.dead {w0 : World} {G : Nat} {E : Env} {H : CH} {w : World} (h : WR w0 G E H w) (e : En) : WR w0 G (E ++ [e]) (H.push .dead) w := by
  have hE : ∀ {b : Nat} {x : En} {y : CO}, (E ++ [e])[b]? = some x → (H.push .dead)[b]? = some y → (E[b]? = some x ∧ H[b]? = some y) ∨ y = .dead := by
    intro b x y hx hy
    rcases push_some hy with hy | ⟨h3, h4⟩
    · rcases getElem?_snoc_some hx with hx | ⟨h1, h2⟩
      · exact .inl ⟨hx, hy⟩
      · have := Hp.lt hy; have := h.len; omega
    · exact .inr h4
  refine ⟨by simp [h.len, Hp.length_push], by simp; have := h.glen; omega, h.below, ?_, ?_, ?_, ?_⟩
  · intro b y x hy hx
    rcases hE hx hy with ⟨hx, hy⟩ | rfl
    · exact ORg.mono [e] (h.obj b y x hy hx)
    · exact trivial
  · intro b b' y y' x x' hGG hy hy' hx hx' ha ha' hblk
    rcases hE hx hy with ⟨hx1, hy1⟩ | rfl
    · rcases hE hx' hy' with ⟨hx1', hy1'⟩ | rfl
      · exact h.inj b b' y y' x x' hGG hy1 hy1' hx1 hx1' ha ha' hblk
      · cases ha'
    · cases ha
  · intro b y x hy hx ha hG
    rcases hE hx hy with ⟨hx, hy⟩ | rfl
    · exact h.new b y x hy hx ha hG
    · cases ha
  · refine ⟨h.old.1, fun b x hb hx => ?_⟩
    have hbl : b < E.length := by have := h.glen; have := h.old.1; omega
    rw [List.getElem?_append_left hbl] at hx
    exact h.old.2 b x hb hx
theorem heapL_snoc (l : List CO) (o : CO) : heapL (l ++ [o]) = (heapL l).push o := by unfold heapL; rw [List.foldl_append]; rfl
theorem WR.deads {w0 : World} {G : Nat} {w : World} {l : List CO} : ∀ (j : Nat) {E : Env}, WR w0 G E (heapL l) w → ∃ F, WR w0 G (E ++ F) (heapL (l ++ List.replicate j .dead)) w
  | 0, E, h => ⟨[], by simpa using h⟩
  | j + 1, E, h => by
    obtain ⟨F, hF⟩ := WR.deads j h
    refine ⟨F ++ [⟨0, 0, 0⟩], ?_⟩
    have hl : l ++ List.replicate (j + 1) CO.dead = (l ++ List.replicate j .dead) ++ [.dead] := by rw [List.replicate_succ', List.append_assoc]
    rw [hl, heapL_snoc, ← List.append_assoc]
    exact hF.dead _
theorem orders_sound2 {self : Task → Option Res} {P : Program} {G id : Nat} {ops : Array Oper} {Good : Nat → Prop} {tmS : Nat → Array Value} {HS : Nat → CH} {mF : Nat} (hself : SelfSound P G self) (hmix : P.follows .mixedOrders = true) {tm0 : Array Value} {H0 : CH} (h : Orders self P G ops H0.length Good tmS HS mF) (hG : G ≤ H0.length)
    (h0 : Good 0) {l : List CO} {j : Nat} (hl : HS 0 = heapL (l ++ List.replicate j .dead)) (hst : Restate H0.length tm0 H0 (tmS 0) (heapL l)) (ro : Option Nat) : Sound P G (.code (.region id ops true) ro tm0 H0 []) (.ex .normal (tmS mF) (HS mF) []) := by
  intro w0 E a w ro' n Q hw ht hd hr hq
  refine ⟨?_, fun b hb => by cases hb⟩
  have hlen := hw.len
  obtain ⟨E1, e1, e2, e3⟩ := hst.use hG hw ht
  have hk1 : H0.length ≤ E1.length := by
    have h9 := congrArg List.length e1
    rw [List.length_take, List.length_take] at h9
    omega
  obtain ⟨F, f2⟩ := WR.deads j e2
  rw [← hl] at f2
  refine wpIn_region_any hmix ?_
  rw [← arrB_zero]
  refine orders_any (w0 := w0) (E0 := E) (d0 := a.defers) hself h hG ro' n (fun E' a' w' h1 hk h2 h3 h4 => ?_) ops.size 0 (E1 ++ F) a _ h0 (by rw [take_app hk1]; exact e1) (by rw [List.length_append]; omega) (f2.draws _) (e3.mono F) rfl ?_
  · have hE : E'.take H0.length = E := by rw [h1, ← hlen]; exact List.take_length
    have hE' : E' = E ++ E'.drop H0.length := by
      conv => lhs; rw [← List.take_append_drop H0.length E', hE]
    rw [hE'] at h2 h3
    exact hq _ a' w' h2 h3 (by rw [h4]; exact hd.mono _)
  · unfold un
    have : ((List.range ops.size).countP fun i => !(arrB ops.size 0).getD i false) ≤ (List.range ops.size).length := List.countP_le_length
    simpa using this

end Go.Ex
/- Engine, part 40: orders of regions that hold calls told by a table. -/
namespace Go.Ex
open Go.RowKit
noncomputable def tabW (C : Cfg) : OTask → Out QRes := fun t =>
  match t with
  | .call f args H => tabO (C.T f args.toList H) .fail
  | _ => .fail
section
variable (w : OTask → Out QRes) (P : Program) (G : Nat) (C : Cfg) (f : Nat) (ops : Array Oper) (N : Nat) (live : Nat → List (Nat × Value)) (hp : Nat → List (CO × Bool)) (rho : Nat → List Nat) (ans conds : Nat → List Bool) (len : Nat → Nat)
noncomputable def outW (t : Nat × Nat) : Out (Value × CH) :=
  match ops[t.2]? with
  | some o => opO w P G C f (tmL N (live t.1)) (heapL ((hp t.1).map (·.1))) o
  | none => .fail
noncomputable def obsW (t : Nat × Nat) : Option (List Bool × Bool × Nat × Nat × List Value × List (Option CO)) :=
  match ops[t.2]? with
  | some o => match (outW w P G C f ops N live hp t).way (ans t.2) with
    | some x => some (x.1, o.guard.isNone, (putH (tmL N (live t.1)) o.dst x.2.1).length, x.2.2.length, (live (t.1 ||| 2 ^ t.2)).map (fun p => tval (putH (tmL N (live t.1)) o.dst x.2.1) p.1), obsH x.2.2 (hp (t.1 ||| 2 ^ t.2)) (rho t.2))
    | none => none
  | none => none
end
theorem orders_ofW {w : OTask → Out QRes} {P : Program} {G : Nat} {C : Cfg} {f : Nat} {ops : Array Oper} {N : Nat} {live : Nat → List (Nat × Value)} {hp : Nat → List (CO × Bool)} {rho : Nat → List Nat} {ans conds : Nat → List Bool} {len : Nat → Nat} {k mF : Nat} (states : List Nat)
    (h1 : (trsN ops states).map (outW w P G C f ops N live hp) = (trsN ops states).map fun t => (outW w P G C f ops N live hp t).fix) (h2 : (trsN ops states).map (obsW w P G C f ops N live hp rho ans) = (trsN ops states).map (expN N live hp rho conds len))
    (h3 : ∀ i, conds i = (ans i).take (conds i).length) (h4 : ((trsN ops states).all fun t => goodR k (len t.2) (live (t.1 ||| 2 ^ t.2)) (hp (t.1 ||| 2 ^ t.2)) (rho t.2)) = true) (h5 : closedN ops states mF = true) (h6 : ∀ m o, (o, true) ∈ hp m → FlatO o) :
    Orders (selfA (qS w)) P G ops k (fun m => m ∈ states) (fun m => absT (tmL N (live m))) (fun m => heapL ((hp m).map (·.1))) mF := by
  unfold closedN at h5
  rw [Bool.and_eq_true] at h5
  refine ⟨fun m hm i hi => ?_, fun m hm hr => ?_⟩
  · have hmem : (m, i) ∈ trsN ops states := by
      unfold trsN
      rw [List.mem_flatMap]
      exact ⟨m, hm, List.mem_map.2 ⟨i, hi, rfl⟩⟩
    have q1 := map_eq_mem _ h1 (m, i) hmem
    have q2 := map_eq_mem _ h2 (m, i) hmem
    have q4 := List.all_eq_true.1 h4 (m, i) hmem
    have q5 := List.all_eq_true.1 h5.1 (m, i) hmem
    dsimp only at q4 q5
    unfold obsW expN at q2
    dsimp only at q2
    split at q2
    case h_2 => cases q2
    rename_i o ho
    split at q2
    case h_2 => cases q2
    rename_i x hx
    obtain ⟨cs, v, H1⟩ := x
    simp only [Option.some.injEq, Prod.mk.injEq] at q2
    obtain ⟨rfl, hng, hN, hlen, hlive, hheap⟩ := q2
    have hsel := Out.way_sel q1 hx (h3 i)
    unfold outW at hsel
    dsimp only at hsel
    rw [ho] at hsel
    have hop := opO_sel hsel
    unfold goodR at q4
    simp only [Bool.and_eq_true, beq_iff_eq, decide_eq_true_eq] at q4
    obtain ⟨g1, g2, g3, g4, g5, g6, g7⟩ := q4
    refine ⟨o, v, H1, ho, by simpa using hng, hop, (memB_iff _).1 q5, ?_⟩
    rw [← putH_abs]
    refine restate_of (rho i) (live (m ||| 2 ^ i)) (hp (m ||| 2 ^ i)) hN (Nat.eq_of_beq_eq_true g1) (Nat.le_of_ble_eq_true g2) g3 g4 (fun c hc => ?_) hlive g6 hheap g7 (h6 _)
    rw [hlen]
    exact blt_lt (List.all_eq_true.1 g5 c hc)
  · have := List.all_eq_true.1 h5.2 m hm
    have hr' : readyN ops m = [] := hr
    rw [hr'] at this
    exact Nat.eq_of_beq_eq_true this
theorem tabW_sound {P : Program} {G : Nat} {C : Cfg} (hT : TSound P G C.T) : OSound P G (tabW C) := by
  intro t r h
  cases t with
  | call f args H =>
    have h' : (tabO (C.T f args.toList H) .fail).sel = some r := h
    unfold tabO at h'
    split at h'
    · rename_i c v H1 l ht
      obtain ⟨h1, h2⟩ := ifSame_some (k := (condO' c (.leaf (.val v H1))).sel) h'
      obtain ⟨h3, h4⟩ := condO'_sel h2
      cases h4
      exact hT f args.toList H c v H1 l ht h3 h1
    · cases h'
  | code f c ro tm H df => cases h
  | round l args H => cases h
end Go.Ex
