import Derived.Test.YteemponkignnhaaGreatZe1
import Derived.Test.YteemponkignnhaaGreatZe2
import Derived.Test.YteemponkignnhaaGreatLr3
import Derived.Test.YteemponkignnhaaGreatLc5
set_option maxRecDepth 10000
noncomputable section
namespace Go.Proofs.YteemponkignnhaaGreat.Ways
open Go Go.Ex Go.RowKit Go.Turn
end Go.Proofs.YteemponkignnhaaGreat.Ways
set_option maxRecDepth 10000
noncomputable section
namespace Go.Proofs.YteemponkignnhaaGreat.Ways
open Go Go.Ex Go.RowKit Go.Turn
abbrev Mp := List MapEntry × Nat
def upM (k : Int) (v : Int) (m : Mp) : Mp := (updE k (i v) m.2 m.1, clkE k m.2 m.1)
def incM (k : Int) (m : Mp) : Mp := upM k (wrapF .i64 (mapIV m.1 k + 1)) m
abbrev ES := Int × Mp × Mp
def GdM (m : Mp) : Prop := keysI m.1 = true ∧ flatM m.1
theorem flatM_upd {a : Int} {v : Value} {k : Nat} (hv : Ex.flat v = true) : ∀ {es : List MapEntry}, flatM es → flatM (updE a v k es)
  | [], _ => fun m hm => by
    have : m = { key := .int .i64 a, val := v, born := k } := by simpa [updE] using hm
    rw [this]; exact hv
  | e :: es, h => fun m hm => by
    have hm' : m ∈ (if a = keyI e then { e with key := .int .i64 a, val := v } :: es else e :: updE a v k es) := hm
    by_cases hk : a = keyI e
    · rw [if_pos hk] at hm'
      rcases List.mem_cons.1 hm' with rfl | hm'
      · exact hv
      · exact h m (List.mem_cons_of_mem _ hm')
    · rw [if_neg hk] at hm'
      rcases List.mem_cons.1 hm' with rfl | hm'
      · exact h _ (List.mem_cons_self ..)
      · exact flatM_upd hv (fun m hm => h m (List.mem_cons_of_mem _ hm)) m hm'
theorem keysI_flat {es : List MapEntry} {k : Int} {v : Value} {c : Nat} (h : flatM es) (hv : Ex.flat v = true) : flatM (updE k v c es) := flatM_upd hv h
theorem GdM.up {m : Mp} {k v : Int} (h : GdM m) : GdM (upM k v m) := ⟨keysI_upd h.1, keysI_flat h.2 rfl⟩
section
variable (rs cy ds : List Value) (n lc ld : Nat) (x : Int)
def hA (rs cy ds : List Value) (m1 m2 : Mp) : List (CO × Bool) := [(.dead, false), (.dead, false), (.dead, false), (.cells rs 114 2 false, true), (.dead, false), (.dead, false), (.dead, false), (.dead, false), (.cells cy 96 4 false, true), (.cells ds 93 2 false, true), (.dead, false), (.dead, false), (.dead, false), (.map m1.1 m1.2, true), (.map m2.1 m2.2, true)]
end
section
variable {rs cy ds : List Value} {n lc ld : Nat} {x : Int}
end
section
variable (rs cy ds : List Value) (n lc ld : Nat) (x : Int)
def hN (rs _cy ds : List Value) (m1 m2 : Mp) : List (CO × Bool) := [(.dead, false), (.dead, false), (.dead, false), (.cells rs 114 2 false, true), (.dead, false), (.dead, false), (.dead, false), (.cells ds 93 2 false, true), (.dead, false), (.dead, false), (.map m1.1 m1.2, true), (.map m2.1 m2.2, true)]
end
section
variable {rs cy ds : List Value} {n lc ld : Nat} {x : Int}
end
end Go.Proofs.YteemponkignnhaaGreat.Ways
set_option maxRecDepth 10000
noncomputable section
namespace Go.Proofs.YteemponkignnhaaGreat.Ways
open Go Go.Ex Go.RowKit Go.Turn
section
variable (rs cy ds : List Value) (n lc ld : Nat) (x : Int)
end
section
variable {rs cy ds : List Value} {n lc ld : Nat} {x : Int}
end
end Go.Proofs.YteemponkignnhaaGreat.Ways
set_option maxRecDepth 10000
noncomputable section
namespace Go.Proofs.YteemponkignnhaaGreat.Ways
open Go Go.Ex Go.RowKit Go.Turn
section
variable (cs : List Value) (n : Nat)
def RN_ : Nat := (rvI cs n).length
def RS_ : List Value := flatP (rvI cs n)
def CC_ : List Cy := (cnt (RS_ cs n) (RN_ cs n)).2
def LD_ : Nat := (cnt (RS_ cs n) (RN_ cs n)).1.length
noncomputable def ST_ : List Value := cellO (eO (RS_ cs n) (RN_ cs n) (RN_ cs n))
noncomputable def CP_ : Nat := capO (eO (RS_ cs n) (RN_ cs n) (RN_ cs n))
noncomputable def DS_ : List Value := flatP (pts (ST_ cs n) (LD_ cs n))
end
def apE (cs : List Value) (n : Nat) : Bool := !decide (n = 0) && (decide (n ≤ n) && (decide (n ≤ 1048576) && decide (0 + n * 2 ≤ cs.length)))
section
variable (cs : List Value) (n : Nat) (x : Int) (t s : Nat) (ex : Bool) (r1 r2 r3 r4 : ES) (r5 : Int × Int) (r6 r7 r8 : Int)
end
section
variable (cs : List Value) (n : Nat) (x : Int) (t s : Nat) (ex : Bool) (r1 r3 r4 : ES) (r7 r8 : Int)
end
end Go.Proofs.YteemponkignnhaaGreat.Ways
set_option maxRecDepth 10000
noncomputable section
namespace Go.Proofs.YteemponkignnhaaGreat.Ways
open Go Go.Ex Go.RowKit Go.Turn
def intV (v : Option Value) : Int := match v with
  | some (.int _ b) => b
  | _ => 0
theorem mapIV_eq (es : List MapEntry) (k : Int) : mapIV es k = intV (valAt k es) := by
  rw [← findI_valAt es 0]
  unfold mapIV intV
  cases findI k es 0 with
  | none => rfl
  | some r =>
    obtain ⟨j, v⟩ := r
    cases v <;> rfl
theorem mapIV_upd (es : List MapEntry) (k k' x : Int) (clock : Nat) : mapIV (updE k (i x) clock es) k' = if k' = k then x else mapIV es k' := by
  rw [mapIV_eq, mapIV_eq, valAt_upd]
  by_cases h : k' = k
  · rw [if_pos h, if_pos h]; rfl
  · rw [if_neg h, if_neg h]
theorem up_get (m : Mp) (k v k' : Int) : mapIV (upM k v m).1 k' = if k' = k then v else mapIV m.1 k' := mapIV_upd _ _ _ _ _
def mld (m : Mp) (P : List Pt) : Mp := P.foldl (fun m p => upM p.1 p.2 m) m
theorem mld_out {k : Int} : ∀ {P : List Pt} {m : Mp}, (∀ p ∈ P, p.1 ≠ k) → mapIV (mld m P).1 k = mapIV m.1 k
  | [], _, _ => rfl
  | p :: P, m, h => by
    show mapIV (mld (upM p.1 p.2 m) P).1 k = _
    rw [mld_out (fun q hq => h q (List.mem_cons_of_mem _ hq)), up_get, if_neg (fun e => h p (List.mem_cons_self ..) e.symm)]
theorem mld_get {x : Pt} : ∀ {P : List Pt} {m : Mp}, P.Pairwise (fun a b => a.1 ≠ b.1) → x ∈ P → mapIV (mld m P).1 x.1 = x.2
  | p :: P, m, hp, hx => by
    show mapIV (mld (upM p.1 p.2 m) P).1 x.1 = _
    have hp' := List.pairwise_cons.1 hp
    rcases List.mem_cons.1 hx with rfl | hx
    · rw [mld_out (fun q hq => fun e => hp'.1 q hq e.symm), up_get, if_pos rfl]
    · exact mld_get hp'.2 hx
def mct (m : Mp) (L : List Int) : Mp := L.foldl (fun m k => incM k m) m
theorem mct_app (m : Mp) (A B : List Int) : mct m (A ++ B) = mct (mct m A) B := List.foldl_append
theorem mct_get {k : Int} : ∀ {L : List Int} {m : Mp}, 0 ≤ mapIV m.1 k → mapIV m.1 k + L.length < 1000000 → mapIV (mct m L).1 k = mapIV m.1 k + (L.count k : Nat)
  | [], m, _, _ => by show mapIV m.1 k = _; simp
  | x :: L, m, h0, h1 => by
    rw [List.length_cons] at h1
    have e : mapIV (incM x m).1 k = mapIV m.1 k + if k = x then 1 else 0 := by
      unfold incM
      rw [up_get]
      by_cases hk : k = x
      · subst hk
        rw [if_pos rfl, if_pos rfl, wrapF_in (by omega) (by omega)]
      · rw [if_neg hk, if_neg hk, Int.add_zero]
    show mapIV (mct (incM x m) L).1 k = _
    rw [mct_get (by rw [e]; split <;> omega) (by rw [e]; split <;> omega), e, List.count_cons]
    by_cases hk : k = x
    · subst hk; simp; omega
    · rw [if_neg hk, if_neg (by simpa using fun e => hk e.symm)]; simp
end Go.Proofs.YteemponkignnhaaGreat.Ways
set_option maxRecDepth 10000
noncomputable section
namespace Go.Proofs.YteemponkignnhaaGreat.Ways
open Go Go.Ex Go.RowKit Go.Turn
theorem pB_fl {P : List Pt} {j : Nat} (h : j < P.length) : pB (flatP P) j = P[j].2 := by
  rw [pB_flat h]
  unfold Turn.at_
  rw [List.getD_eq_getElem?_getD, List.getElem?_eq_getElem h]; rfl
theorem f_fl {C : List Cy} {j : Nat} (h : j < C.length) : f_ (flatC C) j 0 = C[j].1.1 ∧ f_ (flatC C) j 1 = C[j].2.1 ∧ f_ (flatC C) j 2 = minQ C[j].1.2 C[j].2.2 ∧ f_ (flatC C) j 3 = maxQ C[j].1.2 C[j].2.2 := by
  obtain ⟨h0, h1, h2, h3⟩ := flatC_get C j h
  unfold f_
  rw [show 0 + j * 4 + 0 = j * 4 from by omega, show 0 + j * 4 + 1 = j * 4 + 1 from by omega, show 0 + j * 4 + 2 = j * 4 + 2 from by omega, show 0 + j * 4 + 3 = j * 4 + 3 from by omega, h0, h1, h2, h3]
  exact ⟨rfl, rfl, rfl, rfl⟩
end Go.Proofs.YteemponkignnhaaGreat.Ways
set_option maxRecDepth 10000
noncomputable section
namespace Go.Proofs.YteemponkignnhaaGreat.Ways
open Go Go.Ex Go.RowKit Go.Turn
theorem mxI_le (a b : Int) : a ≤ mxI a b ∧ b ≤ mxI a b := by unfold mxI; constructor <;> split <;> omega
theorem mnI_le (a b : Int) : mnI a b ≤ a ∧ mnI a b ≤ b := by unfold mnI; constructor <;> split <;> omega
theorem fo_le {cs : List Value} : ∀ (n j : Nat), j < n → eI cs j ≤ foN mxI cs n ∧ foN mnI cs n ≤ eI cs j
  | 1, j, hj => by
    have : j = 0 := by omega
    subst this
    exact ⟨Int.le_refl _, Int.le_refl _⟩
  | n + 2, j, hj => by
    show eI cs j ≤ mxI (foN mxI cs (n + 1)) (eI cs (n + 1)) ∧ mnI (foN mnI cs (n + 1)) (eI cs (n + 1)) ≤ eI cs j
    have h1 := mxI_le (foN mxI cs (n + 1)) (eI cs (n + 1))
    have h2 := mnI_le (foN mnI cs (n + 1)) (eI cs (n + 1))
    by_cases h : j = n + 1
    · subst h
      exact ⟨h1.2, h2.2⟩
    · have := fo_le (cs := cs) (n + 1) j (by omega)
      omega
theorem fo_mem {cs : List Value} {f : Int → Int → Int} (hf : ∀ a b, f a b = a ∨ f a b = b) : ∀ n, ∃ j, j ≤ n ∧ foN f cs (n + 1) = eI cs j
  | 0 => ⟨0, Nat.le_refl _, rfl⟩
  | n + 1 => by
    rcases hf (foN f cs (n + 1)) (eI cs (n + 1)) with h | h
    · obtain ⟨j, h1, h2⟩ := fo_mem hf n
      exact ⟨j, by omega, h.trans h2⟩
    · exact ⟨n + 1, Nat.le_refl _, h⟩
end Go.Proofs.YteemponkignnhaaGreat.Ways
set_option maxRecDepth 10000
noncomputable section
namespace Go.Proofs.YteemponkignnhaaGreat.Ways
open Go Go.Ex Go.RowKit Go.Turn
theorem firstF_zr' {e : Nat → Int} {n : Nat} (h : firstF e n 0 = 0) : ∀ j, j < n → e j = 0 := firstF_zr.1 h
theorem fpI_len (cs : List Value) : ∀ j, (fpI cs j).length ≤ j
  | 0 => Nat.le_refl 0
  | j + 1 => by
    rw [fpI_succ]
    have := ps_len (fpI cs j) ((j : Int), eI cs j)
    have := fpI_len cs j
    omega
theorem rvI_rev (cs : List Value) (n : Nat) : (rvI cs n).reverse = fpI cs n := by
  unfold rvI fpI
  rw [List.reverse_reverse, Turn.same]
structure Fx (cs : List Value) (n : Nat) (x : Int) : Prop where
  ok : okI cs n n
  len : cs.length = n
  n1 : 1 ≤ n
  n24 : n ≤ 24
  cl : clE cs n = 0
  lv : -32768 ≤ x ∧ x ≤ 32768
section
variable {cs : List Value} {n : Nat} {x : Int}
theorem Fx.rev (h : Fx cs n x) : Rev (rvI cs n).reverse := by
  rw [rvI_rev]
  have h24 := h.n24
  refine (fpI_rev (n := n) (fun j hj => ?_) (by omega) n (Nat.le_refl _)).1
  have hcl := h.cl
  unfold clE at hcl
  rw [if_neg (by omega)] at hcl
  exact rgE_zero (firstF_zr' hcl j hj)
theorem Fx.rn (h : Fx cs n x) : 1 ≤ RN_ cs n ∧ RN_ cs n ≤ n := by
  have h1 := fpI_len cs n
  have h2 : (rvI cs n).length = (fpI cs n).length := by rw [← rvI_rev, List.length_reverse]
  have hn1 := h.n1
  obtain ⟨m, rfl⟩ : ∃ m, n = m + 1 := ⟨n - 1, by omega⟩
  have h3 : (fpI cs (m + 1)).length ≠ 0 := by
    rw [fpI_succ]
    obtain ⟨q, o, e⟩ := ps_cons (fpI cs m) ((m : Int), eI cs m)
    rw [e]; simp
  show 1 ≤ (rvI cs (m + 1)).length ∧ (rvI cs (m + 1)).length ≤ m + 1
  omega
theorem cnt_rv (cs : List Value) (n : Nat) : cnt (RS_ cs n) (RN_ cs n) = cntR (rvI cs n).reverse := by
  rw [cnt_R]
  unfold RS_ RN_
  rw [pts_flat _ _ (Nat.le_refl _), List.take_length]
def SS_ (cs : List Value) (n : Nat) : List Pt := (cnt (RS_ cs n) (RN_ cs n)).1
theorem Fx.ci (h : Fx cs n x) : CI (rvI cs n).reverse (SS_ cs n) (CC_ cs n) ∧ NoC (SS_ cs n) := by
  have := cntR_inv h.rev
  unfold SS_ CC_
  rw [cnt_rv]
  exact this
theorem Fx.srev (h : Fx cs n x) : Rev (SS_ cs n) := by
  have hc := h.ci.1
  have hr := h.rev
  exact ⟨fun p hp => hr.bd p (hc.sub.subset hp), hr.dn.sublist hc.sub, hc.alt⟩
theorem lens (cs : List Value) (n : Nat) : LD_ cs n + 2 * (CC_ cs n).length = RN_ cs n := cnt_len _ _
theorem Fx.okR (h : Fx cs n x) : okP (RS_ cs n) (RN_ cs n) (RN_ cs n) := okP_flat (by have := h.rn; have := h.n24; show RN_ cs n < 1000000; omega)
theorem Fx.ld (h : Fx cs n x) : 1 ≤ LD_ cs n := by
  have := cnt_ne (RS_ cs n) h.rn.1
  show 1 ≤ (cnt (RS_ cs n) (RN_ cs n)).1.length
  cases hq : (cnt (RS_ cs n) (RN_ cs n)).1 with
  | nil => exact absurd hq this
  | cons _ _ => simp
theorem Fx.st (h : Fx cs n x) : okP (ST_ cs n) (LD_ cs n) (CP_ cs n) ∧ DS_ cs n = flatP (SS_ cs n).reverse := by
  have h1 := h.rn
  have h2 := h.n24
  have := st_ok h.okR h1.1 (by omega)
  exact ⟨this.1, this.2.1⟩
theorem Fx.okD (h : Fx cs n x) : okP (DS_ cs n) (LD_ cs n) (LD_ cs n) := by
  have h1 := h.rn
  have h2 := h.n24
  have h3 := lens cs n
  rw [h.st.2]
  have := okP_flat (a := (SS_ cs n).reverse) (by rw [List.length_reverse]; show LD_ cs n < 1000000; omega)
  rw [List.length_reverse] at this
  exact this
theorem Fx.crD (h : Fx cs n x) : crE (DS_ cs n) (LD_ cs n) = 0 := by
  have h1 := h.rn
  have h2 := h.n24
  have h3 := lens cs n
  have := (cr_flat (P := (SS_ cs n).reverse) (by rw [List.length_reverse]; show LD_ cs n ≤ 40000; omega)).2 (by rw [List.reverse_reverse]; exact h.srev)
  rw [List.length_reverse] at this
  rw [h.st.2]
  exact this
theorem both_mem {C : List Cy} {q : Cy} (h : q ∈ C) : q.1 ∈ both C ∧ q.2 ∈ both C := by
  induction C with
  | nil => cases h
  | cons a r ih =>
    rcases List.mem_cons.1 h with rfl | h
    · exact ⟨List.mem_cons_self .., List.mem_cons_of_mem _ (List.mem_cons_self ..)⟩
    · have := ih h
      exact ⟨List.mem_cons_of_mem _ (List.mem_cons_of_mem _ this.1), List.mem_cons_of_mem _ (List.mem_cons_of_mem _ this.2)⟩
theorem Fx.memS (h : Fx cs n x) {p : Pt} (hp : p ∈ SS_ cs n) : p ∈ rvI cs n := List.mem_reverse.1 (h.ci.1.perm.subset (List.mem_append_left _ hp))
theorem Fx.memC (h : Fx cs n x) {q : Cy} (hq : q ∈ CC_ cs n) : q.1 ∈ rvI cs n ∧ q.2 ∈ rvI cs n :=
  ⟨List.mem_reverse.1 (h.ci.1.perm.subset (List.mem_append_right _ (both_mem hq).1)), List.mem_reverse.1 (h.ci.1.perm.subset (List.mem_append_right _ (both_mem hq).2))⟩
theorem Fx.bd (h : Fx cs n x) {p : Pt} (hp : p ∈ rvI cs n) : Bd p := h.rev.bd p (List.mem_reverse.2 hp)
theorem Fx.nd (h : Fx cs n x) : (rvI cs n).Pairwise (fun a b => a.1 ≠ b.1) := by
  have := List.pairwise_reverse.1 h.rev.dn
  exact this.imp fun {a b} hab => by omega
theorem Fx.load (h : Fx cs n x) {p : Pt} (hp : p ∈ rvI cs n) : mapIV (mld ([], 0) (rvI cs n)).1 p.1 = p.2 := mld_get h.nd hp
theorem Fx.once (h : Fx cs n x) {p : Pt} (hp : p ∈ rvI cs n) : mapIV (mct (mct ([], 0) ((both (CC_ cs n)).map (·.1))) ((SS_ cs n).reverse.map (·.1))).1 p.1 = 1 := by
  rw [← mct_app]
  have hperm : ((both (CC_ cs n)).map (·.1) ++ (SS_ cs n).reverse.map (·.1)).Perm ((rvI cs n).map (·.1)) := by
    rw [← List.map_append]
    refine List.Perm.map _ ?_
    refine List.Perm.trans ?_ ((List.reverse_perm _).symm.trans h.ci.1.perm.symm).symm
    exact List.perm_append_comm.trans ((List.reverse_perm _).append_right _)
  have hnd : ((rvI cs n).map (·.1)).Nodup := List.pairwise_map.2 h.nd
  have hlen : ((both (CC_ cs n)).map (·.1) ++ (SS_ cs n).reverse.map (·.1)).length = RN_ cs n := by rw [hperm.length_eq, List.length_map]; rfl
  rw [mct_get (show 0 ≤ mapIV [] p.1 from Int.le_refl 0) (by show (0 : Int) + _ < _; rw [hlen]; have := h.rn; have := h.n24; omega), hperm.count_eq]
  have : ((rvI cs n).map (·.1)).count p.1 = 1 := by
    refine Nat.le_antisymm (List.nodup_iff_count.1 hnd _) (List.count_pos_iff.2 (List.mem_map.2 ⟨p, hp, rfl⟩))
  rw [this]; rfl
theorem Fx.gc (h : Fx cs n x) : GcE (flatC (CC_ cs n)) (CC_ cs n).length (CC_ cs n).length := by
  have h1 := h.rn
  have h2 := h.n24
  have h3 := lens cs n
  refine ⟨okF_flat _ (by omega), by omega, fun j hj => ?_⟩
  obtain ⟨f0, f1, f2, f3⟩ := f_fl hj
  have hm := List.getElem_mem hj
  obtain ⟨c1, c2⟩ := h.ci.1.cyc _ hm
  obtain ⟨m1, m2⟩ := h.memC hm
  obtain ⟨a0, a1, a2, a3⟩ := h.bd m1
  obtain ⟨b0, b1, b2, b3⟩ := h.bd m2
  refine ⟨by rw [f0]; exact ⟨a0, a1⟩, by rw [f1]; exact ⟨b0, b1⟩, ?_, ?_, by rw [f0, f1]; exact c1, ?_⟩
  · rw [f2]; unfold minQ; split <;> omega
  · rw [f3]; unfold maxQ; split <;> omega
  · rw [f2, f3]; unfold minQ maxQ; split <;> split <;> omega
end
end Go.Proofs.YteemponkignnhaaGreat.Ways
set_option maxRecDepth 10000
noncomputable section
namespace Go.Proofs.YteemponkignnhaaGreat.Ways
open Go Go.Ex Go.RowKit Go.Turn
section
variable (cs : List Value) (n : Nat) (x : Int) (t s : Nat) (ex : Bool)
end
end Go.Proofs.YteemponkignnhaaGreat.Ways
set_option maxRecDepth 10000
noncomputable section
namespace Go.Proofs.YteemponkignnhaaGreat.Ways
open Go Go.Ex Go.RowKit Go.Turn
set_option maxHeartbeats 1000000
section
variable {cs : List Value} {n : Nat} {x : Int}
theorem Fx.lt (h : Fx cs n x) : (rvI cs n).length < 1000000 ∧ (CC_ cs n).length < 1000000 ∧ (SS_ cs n).length < 1000000 := by
  have h1 := h.rn
  have h2 := h.n24
  have h3 := lens cs n
  have e1 : (rvI cs n).length = RN_ cs n := rfl
  have e2 : (SS_ cs n).length = LD_ cs n := rfl
  omega
theorem Fx.ck (h : Fx cs n x) : ckE x = 0 := if_pos ⟨by have := h.lv; omega, by have := h.lv; omega⟩
theorem Fx.apE (h : Fx cs n x) : Ways.apE (RS_ cs n) (RN_ cs n) = true := by
  have h1 := h.rn
  have h2 := h.n24
  have h3 : (RS_ cs n).length = RN_ cs n * 2 := flatP_len _
  unfold Ways.apE
  rw [decide_eq_false (by omega), decide_eq_true (Nat.le_refl _), decide_eq_true (by omega), decide_eq_true (by omega)]; rfl
end
end Go.Proofs.YteemponkignnhaaGreat.Ways
set_option maxRecDepth 10000
noncomputable section
namespace Go.Proofs.YteemponkignnhaaGreat.Ways
open Go Go.Ex Go.RowKit Go.Turn
section
variable {cs : List Value} {n : Nat} {x : Int}
theorem Fx.bD (h : Fx cs n x) : BokE (DS_ cs n) (LD_ cs n) (LD_ cs n) := ⟨h.okD, by have := lens cs n; have := h.rn; have := h.n24; omega⟩
theorem Fx.lok (h : Fx cs n x) : LokE cs n n ∧ okC cs n n ∧ RmE cs n n := ⟨⟨h.ok, h.cl⟩, ⟨h.ok, h.len, by have := h.n24; omega⟩, ⟨h.ok, by have := h.n1; omega, by have := h.n24; omega⟩, h.cl⟩
theorem Fx.p59 (h : Fx cs n x) (f : Bool) (hf : if f = true then CC_ cs n ≠ [] else CC_ cs n = []) : P59 f (RS_ cs n) (RN_ cs n) (RN_ cs n) := ⟨h.okR, h.rn.1, by have := h.rn; have := h.n24; omega, hf⟩
end
end Go.Proofs.YteemponkignnhaaGreat.Ways
set_option maxRecDepth 10000
noncomputable section
namespace Go.Proofs.YteemponkignnhaaGreat.Ways
open Go Go.Ex Go.RowKit Go.Turn
def rawI (cs : List Value) (n : Nat) : Prop := cs.all Ex.flat = true ∧ cs.length = n ∧ ∀ j, j < n → isCellB (.i .i64) cs[0 + j * 1]? = true
section
variable (cs : List Value) (n : Nat) (x : Int) (t s : Nat) (ex : Bool)
end
end Go.Proofs.YteemponkignnhaaGreat.Ways
