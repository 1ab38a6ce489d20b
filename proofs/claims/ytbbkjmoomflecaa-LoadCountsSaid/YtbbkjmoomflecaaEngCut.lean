/- Engine, part 26: a long call in pieces; blocks that nobody needs any more are forgotten between two of them. -/
import Derived.Test.YtbbkjmoomflecaaEngQck
noncomputable section
namespace Go.Ex
open Go.RowKit

def killAll : List Nat → CH → CH
  | [], H => H
  | b :: r, H => killAll r (H.set b .dead)
theorem WR.killAll {w0 : World} {G : Nat} {E : Env} {w : World} : ∀ (ks : List Nat) (H : CH), WR w0 G E H w → WR w0 G E (Ex.killAll ks H) w
  | [], _, h => h
  | b :: r, _, h => WR.killAll r _ (h.kill b)

/-- the first statements, the others -/
def headS : Nat → Code → Code
  | 0, _ => .skip
  | k + 1, .seq a b => .seq a (headS k b)
  | _ + 1, c => c
def tailS : Nat → Code → Code
  | 0, c => c
  | k + 1, .seq _ b => tailS k b
  | _ + 1, _ => .skip
def seqsB : Nat → Code → Bool
  | 0, _ => true
  | k + 1, .seq _ b => seqsB k b
  | _ + 1, _ => false

theorem Sound.forget {P : Program} {G : Nat} (ks : List Nat) {c : Code} {ro : Option Nat} {tm tm' : Array Value} {H H' : CH} {df df' : List Nat} {x : CX}
    (h : Sound P G (.code c ro tm (killAll ks H) df) (.ex x tm' H' df')) : Sound P G (.code c ro tm H df) (.ex x tm' H' df') :=
  fun w0 E a w ro' n Q hw ht hd hr hq => h w0 E a w ro' n Q (hw.killAll ks) ht hd hr hq
theorem Sound.chain {P : Program} {G : Nat} {a b : Code} {ro : Option Nat} {tm tm1 tm2 : Array Value} {H H1 H2 : CH} {df df1 df2 : List Nat} {x : CX}
    (h1 : Sound P G (.code a ro tm H df) (.ex .normal tm1 H1 df1)) (h2 : Sound P G (.code b ro tm1 H1 df1) (.ex x tm2 H2 df2)) : Sound P G (.code (.seq a b) ro tm H df) (.ex x tm2 H2 df2) := by
  intro w0 E act w ro' n Q hw ht hd hr hq
  refine ⟨wpIn_seq (h1 w0 E act w ro' n _ hw ht hd hr fun F a' w' g1 g2 g3 => ?_).1, fun b hb => by cases hb⟩
  exact (h2 w0 (E ++ F) a' w' ro' n Q g1 g2 g3 (hr.mono F) fun F' a'' w'' h4 h5 h6 => hq (F ++ F') a'' w'' (app_assoc_WR h4) (app_assoc_VRs h5) (app_assoc_DR h6)).1

theorem execQ_code {P : Program} {G n : Nat} {c : Code} {ro : Option Nat} {tm : TM} {H : CH} {df : List Nat} {r : QRes} (h : execQ P G n (.code c ro tm H df) = some r) :
    ∃ x tm' H' df', r = .ex x tm' H' df' ∧ Sound P G (.code c ro (absT tm) H df) (.ex x (absT tm') H' df') := by
  have hs := execS_sound P G n _ _ (execQ_sound P G n _ _ h)
  cases r with
  | ex x tm' H' df' => exact ⟨x, tm', H', df', rfl, hs⟩
  | val v H' => exact hs.elim

theorem cut_sound {P : Program} {G : Nat} (ks : List Nat) {x : CX} {tm2 : Array Value} {H2 : CH} {df2 : List Nat} {ro : Option Nat} : ∀ (k n : Nat) (c : Code) (tm tm1 : TM) (H H1 : CH) (df df1 : List Nat), seqsB k c = true →
    execQ P G n (.code (headS k c) ro tm H df) = some (.ex .normal tm1 H1 df1) → Sound P G (.code (tailS k c) ro (absT tm1) (killAll ks H1) df1) (.ex x tm2 H2 df2) → Sound P G (.code c ro (absT tm) H df) (.ex x tm2 H2 df2)
  | 0, n, c, tm, tm1, H, H1, df, df1, _, h, hs => by
    cases n with
    | zero => cases h
    | succ n =>
      have h' : some (QRes.ex .normal tm H df) = some (.ex .normal tm1 H1 df1) := h
      cases h'
      exact Sound.forget ks hs
  | k + 1, n, .seq a b, tm, tm1, H, H1, df, df1, hb, h, hs => by
    cases n with
    | zero => cases h
    | succ n =>
      have h' : seqQ (execQ P G n) (headS k b) ro (execQ P G n (.code a ro tm H df)) = some (.ex .normal tm1 H1 df1) := h
      cases ha : execQ P G n (.code a ro tm H df) with
      | none => rw [ha] at h'; cases h'
      | some ra =>
        obtain ⟨xa, tma, Ha, dfa, rfl, hsa⟩ := execQ_code ha
        rw [ha] at h'
        cases xa with
        | normal => exact Sound.chain hsa (cut_sound ks k n b tma tm1 Ha H1 dfa df1 hb h' hs)
        | exit id => cases h'
        | ret => cases h'

/-- what a piece leaves -/
def leftQ (ks : List Nat) (r : Option QRes) : Option (TM × CH) :=
  match r with
  | some (.ex .normal tm H []) => some (tm, killAll ks H)
  | _ => none
theorem piece {P : Program} {G n k : Nat} {ks : List Nat} {c : Code} {tm tm1 : TM} {H H1 : CH} {x : CX} {tm2 : Array Value} {H2 : CH} {df2 : List Nat} (hb : seqsB k c = true) (h : leftQ ks (execQ P G n (.code (headS k c) none tm H [])) = some (tm1, H1))
    (hs : Sound P G (.code (tailS k c) none (absT tm1) H1 []) (.ex x tm2 H2 df2)) : Sound P G (.code c none (absT tm) H []) (.ex x tm2 H2 df2) := by
  unfold leftQ at h
  split at h
  · rename_i tm' H' hr
    cases h
    exact cut_sound ks k n c tm _ H H' [] [] hb hr hs
  · cases h

/-- the last piece: what the function returns -/
def endsB (P : Program) (G : Nat) (rs : Array ResultVar) (test : List Value → Bool) (r : Option QRes) : Bool :=
  match r with
  | some (.ex .ret tm H df) => match closeS G H df with
    | some H2 => match resultsQ P tm H2 rs.toList with
      | some vs => test vs
      | none => false
    | none => false
  | _ => false
theorem last {P : Program} {G n : Nat} {rs : Array ResultVar} {test : List Value → Bool} {c : Code} {tm : TM} {H : CH} (h : endsB P G rs test (execQ P G n (.code c none tm H [])) = true) :
    ∃ tm2 H2 df2 H3 vs, Sound P G (.code c none (absT tm) H []) (.ex .ret tm2 H2 df2) ∧ closeS G H2 df2 = some H3 ∧ resultsS P tm2 H3 rs.toList = some vs ∧ test vs = true := by
  unfold endsB at h
  split at h
  · rename_i tm2 H2 df2 hr
    obtain ⟨_, _, _, _, he, hs⟩ := execQ_code hr
    cases he
    split at h
    · rename_i H3 hc
      split at h
      · rename_i vs hv
        exact ⟨_, _, _, _, _, hs, hc, by rw [results_eq]; exact hv, h⟩
      · cases h
    · cases h
  · cases h

/-- the call, from its body -/
theorem call_of_body {P : Program} {G : Nat} {f : FuncId} {fn : Func} {c : Code} {args : Array Value} {H H2 H3 : CH} {tm2 : Array Value} {df2 : List Nat} {vs : List Value} (hfn : P.funcs[f]? = some fn) (hc : fn.body = some c)
    (hs : Sound P G (.code c none (absT (ofArgs args.toList fn.ntmps)) H []) (.ex .ret tm2 H2 df2)) (hcl : closeS G H2 df2 = some H3) (hv : resultsS P tm2 H3 fn.results.toList = some vs) : Sound P G (.call f args H) (.val (oneOrTuple vs) H3) := by
  rw [ofArgs_abs] at hs
  have ha : (⟨args.toList ++ List.replicate (fn.ntmps - args.toList.length) undef⟩ : Array Value) = args ++ Array.replicate (fn.ntmps - args.size) undef := by
    apply Array.toList_inj.1
    simp
  rw [ha] at hs
  classical
  let self : Task → Option Res := fun t => if t = .code c none (args ++ Array.replicate (fn.ntmps - args.size) undef) H [] then some (.ex .ret tm2 H2 df2) else none
  have hself : SelfSound P G self := by
    intro t r h
    simp only [self] at h
    split at h
    · rename_i ht
      cases h
      rw [ht]; exact hs
    · cases h
  refine call_sound hself ?_
  unfold callX
  rw [hfn]
  dsimp only
  rw [hc]
  dsimp only
  have : self (.code c none (args ++ Array.replicate (fn.ntmps - args.size) undef) H []) = some (.ex .ret tm2 H2 df2) := if_pos rfl
  rw [this]
  dsimp only
  rw [hcl]
  dsimp only
  rw [hv]; rfl
theorem calls_of {P : Program} {G : Nat} {f : FuncId} {args args' : Array Value} {H H' : CH} {v : Value} (h : Sound P G (.call f args H) (.val v H')) {w0 : World} {E : Env} {w : World} (hw : WR w0 G E H w) (ha : VRs E args args')
    {R : Ending → World → Prop} (hR : ∀ F v' w', WR w0 G (E ++ F) H' w' → VR (E ++ F) v v' → R (.returned v') w') : Calls P f args' w R :=
  CallsIn.calls (h w0 E args' w none 0 R hw ha hR) (fun _ _ h => by cases h)
def isTrue1 (vs : List Value) : Bool :=
  match vs with
  | [.bool true] => true
  | _ => false
end Go.Ex
