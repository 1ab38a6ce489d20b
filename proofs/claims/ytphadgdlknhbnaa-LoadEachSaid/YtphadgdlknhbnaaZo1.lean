import Derived.Test.YtphadgdlknhbnaaZl1
import Derived.Test.YtphadgdlknhbnaaZj
set_option maxRecDepth 10000
noncomputable section
namespace Go.Proofs.Ytphadgdlknhbnaa.Ways
open Go Go.Ex Go.RowKit Go.Turn
theorem firstF_zr' {e : Nat → Int} {n : Nat} (h : firstF e n 0 = 0) : ∀ j, j < n → e j = 0 := firstF_zr.1 h
theorem fpI_len (cs : List Value) : ∀ j, (fpI cs j).length ≤ j
  | 0 => Nat.le_refl 0
  | j + 1 => by
    rw [fpI_succ]
    have := ps_len (fpI cs j) ((j : Int), eI cs j)
    have := fpI_len cs j
    omega
theorem rvI_rev (cs : List Value) (n : Nat) : (rvI cs n).reverse = fpI cs n := by
  unfold rvI fpI
  rw [List.reverse_reverse, Turn.same]
structure Fx (cs : List Value) (n : Nat) (x : Int) : Prop where
  ok : okI cs n n
  len : cs.length = n
  n1 : 1 ≤ n
  n24 : n ≤ 24
  cl : clE cs n = 0
  lv : -32768 ≤ x ∧ x ≤ 32768
section
variable {cs : List Value} {n : Nat} {x : Int}
theorem Fx.rev (h : Fx cs n x) : Rev (rvI cs n).reverse := by
  rw [rvI_rev]
  have h24 := h.n24
  refine (fpI_rev (n := n) (fun j hj => ?_) (by omega) n (Nat.le_refl _)).1
  have hcl := h.cl
  unfold clE at hcl
  rw [if_neg (by omega)] at hcl
  exact rgE_zero (firstF_zr' hcl j hj)
theorem Fx.rn (h : Fx cs n x) : 1 ≤ RN_ cs n ∧ RN_ cs n ≤ n := by
  have h1 := fpI_len cs n
  have h2 : (rvI cs n).length = (fpI cs n).length := by rw [← rvI_rev, List.length_reverse]
  have hn1 := h.n1
  obtain ⟨m, rfl⟩ : ∃ m, n = m + 1 := ⟨n - 1, by omega⟩
  have h3 : (fpI cs (m + 1)).length ≠ 0 := by
    rw [fpI_succ]
    obtain ⟨q, o, e⟩ := ps_cons (fpI cs m) ((m : Int), eI cs m)
    rw [e]; simp
  show 1 ≤ (rvI cs (m + 1)).length ∧ (rvI cs (m + 1)).length ≤ m + 1
  omega
theorem cnt_rv (cs : List Value) (n : Nat) : cnt (RS_ cs n) (RN_ cs n) = cntR (rvI cs n).reverse := by
  rw [cnt_R]
  unfold RS_ RN_
  rw [pts_flat _ _ (Nat.le_refl _), List.take_length]
def SS_ (cs : List Value) (n : Nat) : List Pt := (cnt (RS_ cs n) (RN_ cs n)).1
theorem Fx.ci (h : Fx cs n x) : CI (rvI cs n).reverse (SS_ cs n) (CC_ cs n) ∧ NoC (SS_ cs n) := by
  have := cntR_inv h.rev
  unfold SS_ CC_
  rw [cnt_rv]
  exact this
theorem Fx.srev (h : Fx cs n x) : Rev (SS_ cs n) := by
  have hc := h.ci.1
  have hr := h.rev
  exact ⟨fun p hp => hr.bd p (hc.sub.subset hp), hr.dn.sublist hc.sub, hc.alt⟩
theorem lens (cs : List Value) (n : Nat) : LD_ cs n + 2 * (CC_ cs n).length = RN_ cs n := cnt_len _ _
theorem Fx.okR (h : Fx cs n x) : okP (RS_ cs n) (RN_ cs n) (RN_ cs n) := okP_flat (by have := h.rn; have := h.n24; show RN_ cs n < 1000000; omega)
theorem Fx.crR (h : Fx cs n x) : crE (RS_ cs n) (RN_ cs n) = 0 := (cr_flat (by have := h.rn; have := h.n24; show RN_ cs n ≤ 40000; omega)).2 h.rev
theorem Fx.ld (h : Fx cs n x) : 1 ≤ LD_ cs n := by
  have := cnt_ne (RS_ cs n) h.rn.1
  show 1 ≤ (cnt (RS_ cs n) (RN_ cs n)).1.length
  cases hq : (cnt (RS_ cs n) (RN_ cs n)).1 with
  | nil => exact absurd hq this
  | cons _ _ => simp
theorem Fx.st (h : Fx cs n x) : okP (ST_ cs n) (LD_ cs n) (CP_ cs n) ∧ DS_ cs n = flatP (SS_ cs n).reverse := by
  have h1 := h.rn
  have h2 := h.n24
  have := st_ok h.okR h1.1 (by omega)
  exact ⟨this.1, this.2.1⟩
theorem Fx.okD (h : Fx cs n x) : okP (DS_ cs n) (LD_ cs n) (LD_ cs n) := by
  have h1 := h.rn
  have h2 := h.n24
  have h3 := lens cs n
  rw [h.st.2]
  have := okP_flat (a := (SS_ cs n).reverse) (by rw [List.length_reverse]; show LD_ cs n < 1000000; omega)
  rw [List.length_reverse] at this
  exact this
theorem Fx.crD (h : Fx cs n x) : crE (DS_ cs n) (LD_ cs n) = 0 := by
  have h1 := h.rn
  have h2 := h.n24
  have h3 := lens cs n
  have := (cr_flat (P := (SS_ cs n).reverse) (by rw [List.length_reverse]; show LD_ cs n ≤ 40000; omega)).2 (by rw [List.reverse_reverse]; exact h.srev)
  rw [List.length_reverse] at this
  rw [h.st.2]
  exact this
theorem Fx.rt (_h : Fx cs n x) : RT_ cs n = RS_ cs n := by
  unfold RT_
  rw [List.drop_zero]
  exact List.take_of_length_le (by show (flatP (rvI cs n)).length ≤ _; rw [flatP_len]; exact Nat.le_refl _)
theorem both_mem {C : List Cy} {q : Cy} (h : q ∈ C) : q.1 ∈ both C ∧ q.2 ∈ both C := by
  induction C with
  | nil => cases h
  | cons a r ih =>
    rcases List.mem_cons.1 h with rfl | h
    · exact ⟨List.mem_cons_self .., List.mem_cons_of_mem _ (List.mem_cons_self ..)⟩
    · have := ih h
      exact ⟨List.mem_cons_of_mem _ (List.mem_cons_of_mem _ this.1), List.mem_cons_of_mem _ (List.mem_cons_of_mem _ this.2)⟩
theorem Fx.memS (h : Fx cs n x) {p : Pt} (hp : p ∈ SS_ cs n) : p ∈ rvI cs n := List.mem_reverse.1 (h.ci.1.perm.subset (List.mem_append_left _ hp))
theorem Fx.memC (h : Fx cs n x) {q : Cy} (hq : q ∈ CC_ cs n) : q.1 ∈ rvI cs n ∧ q.2 ∈ rvI cs n :=
  ⟨List.mem_reverse.1 (h.ci.1.perm.subset (List.mem_append_right _ (both_mem hq).1)), List.mem_reverse.1 (h.ci.1.perm.subset (List.mem_append_right _ (both_mem hq).2))⟩
theorem Fx.bd (h : Fx cs n x) {p : Pt} (hp : p ∈ rvI cs n) : Bd p := h.rev.bd p (List.mem_reverse.2 hp)
theorem Fx.nd (h : Fx cs n x) : (rvI cs n).Pairwise (fun a b => a.1 ≠ b.1) := by
  have := List.pairwise_reverse.1 h.rev.dn
  exact this.imp fun {a b} hab => by omega
theorem Fx.load (h : Fx cs n x) {p : Pt} (hp : p ∈ rvI cs n) : mapIV (mld ([], 0) (rvI cs n)).1 p.1 = p.2 := mld_get h.nd hp
theorem Fx.once (h : Fx cs n x) {p : Pt} (hp : p ∈ rvI cs n) : mapIV (mct (mct ([], 0) ((both (CC_ cs n)).map (·.1))) ((SS_ cs n).reverse.map (·.1))).1 p.1 = 1 := by
  rw [← mct_app]
  have hperm : ((both (CC_ cs n)).map (·.1) ++ (SS_ cs n).reverse.map (·.1)).Perm ((rvI cs n).map (·.1)) := by
    rw [← List.map_append]
    refine List.Perm.map _ ?_
    refine List.Perm.trans ?_ ((List.reverse_perm _).symm.trans h.ci.1.perm.symm).symm
    exact List.perm_append_comm.trans ((List.reverse_perm _).append_right _)
  have hnd : ((rvI cs n).map (·.1)).Nodup := List.pairwise_map.2 h.nd
  have hlen : ((both (CC_ cs n)).map (·.1) ++ (SS_ cs n).reverse.map (·.1)).length = RN_ cs n := by rw [hperm.length_eq, List.length_map]; rfl
  rw [mct_get (show 0 ≤ mapIV [] p.1 from Int.le_refl 0) (by show (0 : Int) + _ < _; rw [hlen]; have := h.rn; have := h.n24; omega), hperm.count_eq]
  have : ((rvI cs n).map (·.1)).count p.1 = 1 := by
    refine Nat.le_antisymm (List.nodup_iff_count.1 hnd _) (List.count_pos_iff.2 (List.mem_map.2 ⟨p, hp, rfl⟩))
  rw [this]; rfl
theorem Fx.gc (h : Fx cs n x) : GcE (flatC (CC_ cs n)) (CC_ cs n).length (CC_ cs n).length := by
  have h1 := h.rn
  have h2 := h.n24
  have h3 := lens cs n
  refine ⟨okF_flat _ (by omega), by omega, fun j hj => ?_⟩
  obtain ⟨f0, f1, f2, f3⟩ := f_fl hj
  have hm := List.getElem_mem hj
  obtain ⟨c1, c2⟩ := h.ci.1.cyc _ hm
  obtain ⟨m1, m2⟩ := h.memC hm
  obtain ⟨a0, a1, a2, a3⟩ := h.bd m1
  obtain ⟨b0, b1, b2, b3⟩ := h.bd m2
  refine ⟨by rw [f0]; exact ⟨a0, a1⟩, by rw [f1]; exact ⟨b0, b1⟩, ?_, ?_, by rw [f0, f1]; exact c1, ?_⟩
  · rw [f2]; unfold minQ; split <;> omega
  · rw [f3]; unfold maxQ; split <;> omega
  · rw [f2, f3]; unfold minQ maxQ; split <;> split <;> omega
theorem Fx.rise (h : Fx cs n x) : crs (RT_ cs n) x (RN_ cs n) = crs (DS_ cs n) x (LD_ cs n) + (upCs x (CC_ cs n) : Nat) := by
  have h1 := crs_ups x (rvI cs n)
  have h2 := crs_ups x (SS_ cs n).reverse
  rw [List.reverse_reverse, List.length_reverse] at h2
  rw [h.rt, h.st.2]
  have h3 := h.ci.1.cr x
  have e1 : crs (RS_ cs n) x (RN_ cs n) = (upsR x (rvI cs n).reverse : Nat) := h1
  have e2 : crs (flatP (SS_ cs n).reverse) x (LD_ cs n) = (upsR x (SS_ cs n) : Nat) := h2
  rw [e1, e2]
  omega
end
end Go.Proofs.Ytphadgdlknhbnaa.Ways
set_option maxRecDepth 10000
noncomputable section
namespace Go.Proofs.Ytphadgdlknhbnaa.Ways
open Go Go.Ex Go.RowKit Go.Turn
def sp13b : ESpec := fun al css => match al, css with
  | [.slice (some ⟨1, 0, none⟩) n c], [cs] => some (okI cs n c ∧ clE cs n = 3, i 3)
  | _, _ => none
theorem c13b : ∀ al css os p v, sp13b al css = some (p, v) → p → Blks css os → (∀ cs ∈ css, cs.all Ex.flat = true) ∧ clean 6 v = true ∧ ∃ H', Sound Try.prog (gl + css.length) (.call 13 ⟨al⟩ (heapL (deads ++ os))) (.val v H') := by
  intro al css os p v hs hp hb
  unfold sp13b at hs
  split at hs
  case h_2 => cases hs
  rename_i n c cs
  cases hs
  have key := c13g 13 (.inl rfl) false [sl 1 0 n c] [cs] os _ _ rfl ⟨hp.1, by rw [hp.2]; decide⟩ hb
  rw [hp.2] at key
  exact key
noncomputable def T9_ : Tb := ext TX9 9 (pureE s9 [] Hd)
theorem ts9_ {G : Nat} (haw : Pure Try.prog Hd 9 [] (b_ true)) : TSound Try.prog G T9_ := TSound.pure hd_vars tsX9 fun args v h => by
  unfold s9 at h
  split at h
  · cases h; exact haw
  · cases h
def sp64z : ESpec := fun al css => match al, css with
  | [.int .i64 x], [] => some (ckE x = 0, i 0)
  | _, _ => none
theorem c64z : ∀ al css os p v, sp64z al css = some (p, v) → p → Blks css os → (∀ cs ∈ css, cs.all Ex.flat = true) ∧ clean 6 v = true ∧ ∃ H', Sound Try.prog (gl + css.length) (.call 64 ⟨al⟩ (heapL (deads ++ os))) (.val v H') := by
  intro al css os p v hs hp hb
  unfold sp64z at hs
  split at hs
  case h_2 => cases hs
  rename_i x
  cases hs
  have key : ∃ H', Sound Try.prog (gl + 0) (.call 64 ⟨[i x]⟩ (heapL (deads ++ os))) (.val (i (ckE x)) H') := ⟨_, (p64 x).sound hd_vars (fun _ h => absurd h List.not_mem_nil)⟩
  rw [hp] at key
  exact ⟨fun c hc => absurd hc List.not_mem_nil, rfl, key⟩
noncomputable def TEb : Tb := ext T9_ 13 (autoE sp13b [] (heapL deads))
noncomputable def TEz : Tb := ext (ext (ext (ext (ext T9_ 11 (newE (sp11 true true) [] (heapL deads))) 12 (xE 0 rd0 sp12 [] (heapL deads))) 13 (autoE (sp13g true) [] (heapL deads))) 18 (autoE (sp18g true) [] (heapL deads))) 64 (autoE sp64z [] (heapL deads))
section
variable (cs : List Value) (n : Nat) (x : Int) (t s : Nat) (ex : Bool)
noncomputable def o6b : Out QRes := execO Try.prog 2 ⟨TEb, at_ [(6, 37)] .bool no_, off_, noL⟩ 80 (.call 6 ⟨[sl 1 0 n n, i x]⟩ (heapL (deads ++ [.cells cs t s ex])))
theorem v6b : (o6b cs n x t s ex).vals = .br (ltF 24 n) (.leaf (b_ true)) (aV (tru (okI cs n n ∧ clE cs n = 3)) (.leaf (b_ true))) := by kernel_rfl
theorem x6b : o6b cs n x t s ex = (o6b cs n x t s ex).fix := by kernel_rfl
noncomputable def o6z : Out QRes := execO Try.prog 2 ⟨TEz, at_ [(6, 47)] .bool no_, off_, noL⟩ 120 (.call 6 ⟨[sl 1 0 0 0, i x]⟩ (heapL (deads ++ [.cells cs t s ex])))
noncomputable def t6z : VT := aV (tru (LokE cs 0 0)) <| .br (!eqF (rgE x (-32768) 32768) 0) (.leaf (b_ true)) <| aV (tru (okC cs 0 0)) <| aV (tru (RzE cs 0 0)) <| aV (tru (okC cs 0 0)) <| aV (tru (RzE cs 0 0)) <| aV (tru (BokE [] 0 0 ∧ crE [] 0 = 0)) <|
  aV (tru (ckE x = 0)) <| aV (tru (okI [i 0, i 0] 2 2)) <| aV (tru (ckE x = 0)) <| aV (tru (okI [i 0, i 0] 2 2)) <| .leaf (b_ true)
theorem x6z : o6z cs x t s ex = (o6z cs x t s ex).fix := by kernel_rfl
theorem v6z : (o6z cs x t s ex).vals = t6z cs x := by kernel_rfl
end
end Go.Proofs.Ytphadgdlknhbnaa.Ways
