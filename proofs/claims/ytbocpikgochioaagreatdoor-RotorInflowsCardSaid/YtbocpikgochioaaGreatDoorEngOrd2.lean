/- Engine, part 39: orders, from a state in which the new blocks are not there. -/
import Derived.Test.YtbocpikgochioaaGreatDoorEngOrd
noncomputable section
namespace Go.Ex
open Go.RowKit
/-- a number for a block that is not there -/
theorem WR.dead {w0 : World} {G : Nat} {E : Env} {H : CH} {w : World} (h : WR w0 G E H w) (e : En) : WR w0 G (E ++ [e]) (H.push .dead) w := by
  have hE : ∀ {b : Nat} {x : En} {y : CO}, (E ++ [e])[b]? = some x → (H.push .dead)[b]? = some y → (E[b]? = some x ∧ H[b]? = some y) ∨ y = .dead := by
    intro b x y hx hy
    rcases push_some hy with hy | ⟨h3, h4⟩
    · rcases getElem?_snoc_some hx with hx | ⟨h1, h2⟩
      · exact .inl ⟨hx, hy⟩
      · have := Hp.lt hy; have := h.len; omega
    · exact .inr h4
  refine ⟨by simp [h.len, Hp.length_push], by simp; have := h.glen; omega, h.below, ?_, ?_, ?_, ?_⟩
  · intro b y x hy hx
    rcases hE hx hy with ⟨hx, hy⟩ | rfl
    · exact ORg.mono [e] (h.obj b y x hy hx)
    · exact trivial
  · intro b b' y y' x x' hGG hy hy' hx hx' ha ha' hblk
    rcases hE hx hy with ⟨hx1, hy1⟩ | rfl
    · rcases hE hx' hy' with ⟨hx1', hy1'⟩ | rfl
      · exact h.inj b b' y y' x x' hGG hy1 hy1' hx1 hx1' ha ha' hblk
      · cases ha'
    · cases ha
  · intro b y x hy hx ha hG
    rcases hE hx hy with ⟨hx, hy⟩ | rfl
    · exact h.new b y x hy hx ha hG
    · cases ha
  · refine ⟨h.old.1, fun b x hb hx => ?_⟩
    have hbl : b < E.length := by have := h.glen; have := h.old.1; omega
    rw [List.getElem?_append_left hbl] at hx
    exact h.old.2 b x hb hx
theorem heapL_snoc (l : List CO) (o : CO) : heapL (l ++ [o]) = (heapL l).push o := by unfold heapL; rw [List.foldl_append]; rfl
theorem WR.deads {w0 : World} {G : Nat} {w : World} {l : List CO} : ∀ (j : Nat) {E : Env}, WR w0 G E (heapL l) w → ∃ F, WR w0 G (E ++ F) (heapL (l ++ List.replicate j .dead)) w
  | 0, E, h => ⟨[], by simpa using h⟩
  | j + 1, E, h => by
    obtain ⟨F, hF⟩ := WR.deads j h
    refine ⟨F ++ [⟨0, 0, 0⟩], ?_⟩
    have hl : l ++ List.replicate (j + 1) CO.dead = (l ++ List.replicate j .dead) ++ [.dead] := by rw [List.replicate_succ', List.append_assoc]
    rw [hl, heapL_snoc, ← List.append_assoc]
    exact hF.dead _
theorem orders_sound2 {self : Task → Option Res} {P : Program} {G id : Nat} {ops : Array Oper} {Good : Nat → Prop} {tmS : Nat → Array Value} {HS : Nat → CH} {mF : Nat} (hself : SelfSound P G self) (hmix : P.follows .mixedOrders = true) {tm0 : Array Value} {H0 : CH} (h : Orders self P G ops H0.length Good tmS HS mF) (hG : G ≤ H0.length)
    (h0 : Good 0) {l : List CO} {j : Nat} (hl : HS 0 = heapL (l ++ List.replicate j .dead)) (hst : Restate H0.length tm0 H0 (tmS 0) (heapL l)) (ro : Option Nat) : Sound P G (.code (.region id ops true) ro tm0 H0 []) (.ex .normal (tmS mF) (HS mF) []) := by
  intro w0 E a w ro' n Q hw ht hd hr hq
  refine ⟨?_, fun b hb => by cases hb⟩
  have hlen := hw.len
  obtain ⟨E1, e1, e2, e3⟩ := hst.use hG hw ht
  have hk1 : H0.length ≤ E1.length := by
    have h9 := congrArg List.length e1
    rw [List.length_take, List.length_take] at h9
    omega
  obtain ⟨F, f2⟩ := WR.deads j e2
  rw [← hl] at f2
  refine wpIn_region_any hmix ?_
  rw [← arrB_zero]
  refine orders_any (w0 := w0) (E0 := E) (d0 := a.defers) hself h hG ro' n (fun E' a' w' h1 hk h2 h3 h4 => ?_) ops.size 0 (E1 ++ F) a _ h0 (by rw [take_app hk1]; exact e1) (by rw [List.length_append]; omega) (f2.draws _) (e3.mono F) rfl ?_
  · have hE : E'.take H0.length = E := by rw [h1, ← hlen]; exact List.take_length
    have hE' : E' = E ++ E'.drop H0.length := by
      conv => lhs; rw [← List.take_append_drop H0.length E', hE]
    rw [hE'] at h2 h3
    exact hq _ a' w' h2 h3 (by rw [h4]; exact hd.mono _)
  · unfold un
    have : ((List.range ops.size).countP fun i => !(arrB ops.size 0).getD i false) ≤ (List.range ops.size).length := List.countP_le_length
    simpa using this

end Go.Ex
