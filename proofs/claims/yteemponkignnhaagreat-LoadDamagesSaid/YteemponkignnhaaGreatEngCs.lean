/- Part of the proof. -/
import Derived.Test.YteemponkignnhaaGreatEngQck
noncomputable section
namespace Go.Ex
open Go.RowKit
def killAll : List Nat → CH → CH
  | [], H => H
  | b :: r, H => killAll r (H.set b .dead)
theorem WR.killAll {w0 : World} {G : Nat} {E : Env} {w : World} : ∀ (ks : List Nat) (H : CH), WR w0 G E H w → WR w0 G E (Ex.killAll ks H) w
  | [], _, h => h
  | b :: r, _, h => WR.killAll r _ (h.kill b)
theorem Sound.chain {P : Program} {G : Nat} {a b : Code} {ro : Option Nat} {tm tm1 tm2 : Array Value} {H H1 H2 : CH} {df df1 df2 : List Nat} {x : CX}
    (h1 : Sound P G (.code a ro tm H df) (.ex .normal tm1 H1 df1)) (h2 : Sound P G (.code b ro tm1 H1 df1) (.ex x tm2 H2 df2)) : Sound P G (.code (.seq a b) ro tm H df) (.ex x tm2 H2 df2) := by
  intro w0 E act w ro' n Q hw ht hd hr hq
  refine ⟨wpIn_seq (h1 w0 E act w ro' n _ hw ht hd hr fun F a' w' g1 g2 g3 => ?_).1, fun b hb => by cases hb⟩
  exact (h2 w0 (E ++ F) a' w' ro' n Q g1 g2 g3 (hr.mono F) fun F' a'' w'' h4 h5 h6 => hq (F ++ F') a'' w'' (app_assoc_WR h4) (app_assoc_VRs h5) (app_assoc_DR h6)).1
theorem execQ_code {P : Program} {G n : Nat} {c : Code} {ro : Option Nat} {tm : TM} {H : CH} {df : List Nat} {r : QRes} (h : execQ P G n (.code c ro tm H df) = some r) :
    ∃ x tm' H' df', r = .ex x tm' H' df' ∧ Sound P G (.code c ro (absT tm) H df) (.ex x (absT tm') H' df') := by
  have hs := execS_sound P G n _ _ (execQ_sound P G n _ _ h)
  cases r with
  | ex x tm' H' df' => exact ⟨x, tm', H', df', rfl, hs⟩
  | val v H' => exact hs.elim
def endsB (P : Program) (G : Nat) (rs : Array ResultVar) (test : List Value → Bool) (r : Option QRes) : Bool :=
  match r with
  | some (.ex .ret tm H df) => match closeS G H df with
    | some H2 => match resultsQ P tm H2 rs.toList with
      | some vs => test vs
      | none => false
    | none => false
  | _ => false
theorem last {P : Program} {G n : Nat} {rs : Array ResultVar} {test : List Value → Bool} {c : Code} {tm : TM} {H : CH} (h : endsB P G rs test (execQ P G n (.code c none tm H [])) = true) :
    ∃ tm2 H2 df2 H3 vs, Sound P G (.code c none (absT tm) H []) (.ex .ret tm2 H2 df2) ∧ closeS G H2 df2 = some H3 ∧ resultsS P tm2 H3 rs.toList = some vs ∧ test vs = true := by
  unfold endsB at h
  split at h
  · rename_i tm2 H2 df2 hr
    obtain ⟨_, _, _, _, he, hs⟩ := execQ_code hr
    cases he
    split at h
    · rename_i H3 hc
      split at h
      · rename_i vs hv
        exact ⟨_, _, _, _, _, hs, hc, by rw [results_eq]; exact hv, h⟩
      · cases h
    · cases h
  · cases h
end Go.Ex
/- Engine, part 27: the first relation: the package variables that a row lists lie at their own numbers. -/
noncomputable section
namespace Go.Ex
open Go.RowKit
def startE (G : Nat) : Env := (List.range G).map fun b => ⟨b, 0, 0⟩
theorem startE_get {G b : Nat} {e : En} (h : (startE G)[b]? = some e) : b < G ∧ e = ⟨b, 0, 0⟩ := by
  unfold startE at h
  rw [List.getElem?_map] at h
  have hb : b < G := by
    rcases Nat.lt_or_ge b G with hb | hb
    · exact hb
    · rw [List.getElem?_eq_none (by simpa using hb)] at h; cases h
  refine ⟨hb, ?_⟩
  rw [List.getElem?_range hb] at h
  simpa using h.symm
def LaidAt (W : World) (b : Nat) (o : CO) : Prop :=
  ∃ cs t s, o = .cells cs t s true ∧ cs.all (clean 6) = true ∧ W.heap[b]? = some (.cells ⟨cs⟩ t (0, 0))
theorem WR.start {W : World} {G : Nat} {H : CH} (hgl : gl ≤ G) (hG : H.length = G) (hobj : ∀ b o, H[b]? = some o → o.alive = true → LaidAt W b o) : WR W G (startE G) H W := by
  refine ⟨by simp [startE, hG], by simp [startE], Below.refl _ _, ?_, ?_, ?_, hgl, fun b e _ he => (startE_get he).2⟩
  · intro b o e hb he
    obtain ⟨_, rfl⟩ := startE_get he
    by_cases ha : o.alive = true
    · obtain ⟨cs, t, s, rfl, hc, hw⟩ := hobj b o hb ha
      refine .inr ⟨⟨cs⟩, (0, 0), hw, fun _ => .inl rfl, fun _ => by simp, fun i x hx => ⟨x, by simpa using hx, VR.of_clean _ 6 x ?_⟩, fun _ => ⟨rfl, rfl, rfl⟩⟩
      exact List.all_eq_true.1 hc x (List.mem_of_getElem? hx)
    · cases o <;> first | exact trivial | (exact absurd rfl ha)
  · intro b b' o o' e e' _ _ _ he he' _ _ hblk
    obtain ⟨_, rfl⟩ := startE_get he
    obtain ⟨_, rfl⟩ := startE_get he'
    exact hblk
  · intro b o e _ he _ hGb
    have := (startE_get he).1
    omega
end Go.Ex
