import Derived.Test.YtbocpikgochioaaGreatDoorZe
namespace Go.Proofs.YtbocpikgochioaaGreatDoor.Ways
open Go Go.Ex
/-! ### check.First, for every list -/
def eIE (es : List Value) (j : Nat) : Int := intO es[0 + j * 1]?
def st66 (n c j : Nat) : List (Nat × Value) := [(5, sl 4 0 n c), (6, i (n : Int)), (7, i (j : Int))]
def OkI (es : List Value) (n c : Nat) : Prop := es.all Ex.flat = true ∧ (∀ j, j < n → isCellB (.i .i64) es[0 + j * 1]? = true) ∧ n ≤ c ∧ n ≤ 1000000
section
variable {cs : List Value} {t s : Nat} {ex : Bool} {n c : Nat}
theorem inTc {j : Nat} (hj : j < n) (hc : n ≤ c) : (leF 0 (j : Int) && (ltF (j : Int) (n : Int) && decide (n ≤ c))) = true := by
  rw [ltT hj, leF_eq]; simp [hc]
theorem f66_round (h : OkI cs n c) (j : Nat) (ro : Option Nat) (hj : j < n) (he : eIE cs j = 0) :
    ∃ tm1 H1, Sound Tryz.prog 5 (.code B66 ro (absT (tmL 15 (st66 n c j))) (heapL ((hpA dd4 cs t s ex).map (·.1))) []) (.ex .normal tm1 H1 []) ∧ Restate 5 tm1 H1 (absT (tmL 15 (st66 n c (j + 1)))) (heapL ((hpA dd4 cs t s ex).map (·.1))) := by
  have h := round_of (P := Tryz.prog) (G := 5) (C := CL) (n := 30) (f := Fn.check_First) (b := B66) (ro := ro) (tm := tmL 15 (st66 n c j)) (H := heapL ((hpA dd4 cs t s ex).map (·.1))) (df := []) (df1 := []) (k := 5) (N := 15) (len := 5) (x := .normal) (List.range 5) [(5, sl 4 0 n c), (6, i (n : Int)), (7, i (wrapF .i64 ((j : Int) + 1)))] (hpA dd4 cs t s ex) [true, true, true, false]
    [ltF j n, (leF 0 (j : Int) && (ltF j n && decide (n ≤ c))), isCellB (.i .i64) cs[0 + j * 1]?, !eqF (eIE cs j) 0] tsL lsL (by kernel_rfl) (by kernel_rfl) (by rw [inTc hj h.2.2.1, ltT hj, h.2.1 j hj, he]; rfl) (by kernel_rfl) (flat_dd h.1)
  rw [next_i hj ‹OkI cs n c›.2.2.2] at h
  exact h
theorem f66_ret (h : OkI cs n c) (j : Nat) (ro : Option Nat) (hj : j < n) (he : eIE cs j ≠ 0) :
    ∃ tm1 H1, Sound Tryz.prog 5 (.code B66 ro (absT (tmL 15 (st66 n c j))) (heapL ((hpA dd4 cs t s ex).map (·.1))) []) (.ex .ret tm1 H1 []) ∧ Restate 5 tm1 H1 (absT (tmL 15 [(2, i (eIE cs j))])) (heapL ((hpA dd4 cs t s ex).map (·.1))) :=
  round_of (P := Tryz.prog) (G := 5) (C := CL) (n := 30) (f := Fn.check_First) (b := B66) (ro := ro) (tm := tmL 15 (st66 n c j)) (H := heapL ((hpA dd4 cs t s ex).map (·.1))) (df := []) (df1 := []) (k := 5) (N := 15) (len := 5) (x := .ret) (List.range 5) [(2, i (eIE cs j))] (hpA dd4 cs t s ex) [true, true, true, true]
    [ltF j n, (leF 0 (j : Int) && (ltF j n && decide (n ≤ c))), isCellB (.i .i64) cs[0 + j * 1]?, !eqF (eIE cs j) 0] tsL lsL (by kernel_rfl) (by kernel_rfl) (by rw [inTc hj h.2.2.1, ltT hj, h.2.1 j hj, eqF_d, decide_eq_false he]; rfl) (by kernel_rfl) (flat_dd h.1)
theorem f66_end (hf : cs.all Ex.flat = true) (ro : Option Nat) :
    ∃ tm1 H1, Sound Tryz.prog 5 (.code B66 ro (absT (tmL 15 (st66 n c n))) (heapL ((hpA dd4 cs t s ex).map (·.1))) []) (.ex (.exit 0) tm1 H1 []) ∧ Restate 5 tm1 H1 (absT (tmL 15 [])) (heapL ((hpA dd4 cs t s ex).map (·.1))) :=
  round_of (P := Tryz.prog) (G := 5) (C := CL) (n := 30) (f := Fn.check_First) (b := B66) (ro := ro) (tm := tmL 15 (st66 n c n)) (H := heapL ((hpA dd4 cs t s ex).map (·.1))) (df := []) (df1 := []) (k := 5) (N := 15) (len := 5) (x := .exit 0) (List.range 5) [] (hpA dd4 cs t s ex) [false]
    [ltF n n] tsL lsL (by kernel_rfl) (by kernel_rfl) (by rw [ltN]; rfl) (by kernel_rfl) (flat_dd hf)
variable (cs t s ex n c) in
noncomputable def L66 : LTab := loopE noL Fn.check_First 2 15 5 B66 (st66 n c 0) (hpA dd4 cs t s ex) (two_ends (firstF (eIE cs) n 0) (.exit 0) (tmL 15 []) (tmL 15 [(2, i (firstF (eIE cs) n 0))]) (heapL ((hpA dd4 cs t s ex).map (·.1))))
theorem ls66 (h : OkI cs n c) : LSound Tryz.prog 5 (L66 cs t s ex n c) := by
  refine LSound.loop .none (by kernel_rfl) (flat_dd h.1) fun r hr ro tm0 H0 hk hst => ?_
  obtain ⟨g1, g2⟩ := first_loop (P := Tryz.prog) (G := 5) (b := B66) (N := 15) (k := 5) (st := st66 n c) (hp := hpA dd4 cs t s ex) (lF := []) (lR := fun e => [(2, i e)]) (x := .exit 0) n (eIE cs) (fun h => by cases h)
    (fun j ro hj he => f66_round h j ro hj he) (fun j ro hj he => f66_ret h j ro hj he) (f66_end h.1) ro hk (Nat.le_refl _) hst
  exact two_ends_sel (p := fun r => Sound Tryz.prog 5 (.code (.loop B66) ro tm0 H0 []) r) hr g1 g2
theorem f66_small (h : OkI cs n c) :
    ∃ H', Sound Tryz.prog 5 (.call Fn.check_First ⟨[sl 4 0 n c]⟩ (small1 (.cells cs t s ex))) (.val (i (firstF (eIE cs) n 0)) H') := by
  let C : Cfg := ⟨T10, spL', syL, L66 cs t s ex n c⟩
  obtain ⟨H', hs⟩ := Out.vals_sel (o := execO Tryz.prog 5 C 30 (.call Fn.check_First ⟨[sl 4 0 n c]⟩ (small1 (.cells cs t s ex)))) (v := i (firstF (eIE cs) n 0)) (by kernel_rfl) (by
    rw [show (execO Tryz.prog 5 C 30 (.call Fn.check_First ⟨[sl 4 0 n c]⟩ (small1 (.cells cs t s ex)))).vals = .br (decide (firstF (eIE cs) n 0 = 0)) (.leaf (i 0)) (.leaf (i (firstF (eIE cs) n 0))) from by kernel_rfl]
    by_cases h : firstF (eIE cs) n 0 = 0 <;> simp [VT.sel, h])
  exact ⟨H', execO_sound (C := C) ts10 (ls66 h) 30 _ _ hs⟩
end

/-! ### list.Changed, of the checks -/
def st124 (n j : Nat) : List (Nat × Value) := [(1, fn Fn.rotor_checkLoads), (5, sl 5 0 n n), (11, sl 4 0 n n), (12, i (n : Int)), (13, i (j : Int))]
def chE (cs : List Value) (n : Nat) : Nat → List Value
  | 0 => (zeroRow #[i 0] (n * 1)).toList
  | j + 1 => (chE cs n j).set (0 + j * 1) (i (eJE cs j))
theorem ch_len (cs : List Value) (n : Nat) : ∀ j, (chE cs n j).length = n
  | 0 => by unfold chE zeroRow; simp
  | j + 1 => by unfold chE; rw [List.length_set]; exact ch_len cs n j
theorem ch_get (cs : List Value) (n : Nat) : ∀ j k, j ≤ n → k < n → (chE cs n j)[k]? = some (if k < j then i (eJE cs k) else i 0)
  | 0, k, _, hk => by
    unfold chE zeroRow
    rw [if_neg (by omega)]
    simp [hk, Nat.mod_one]
  | j + 1, k, hj, hk => by
    unfold chE
    rw [List.getElem?_set, ch_len cs n j]
    by_cases hjk : j = k
    · subst hjk
      rw [if_pos (by omega), if_pos (by omega), if_pos (by omega)]
    · rw [if_neg (by omega), ch_get cs n j k (by omega) hk]
      by_cases h : k < j
      · rw [if_pos h, if_pos (by omega)]
      · rw [if_neg h, if_neg (by omega)]
theorem ch_flat (cs : List Value) (n j : Nat) (hj : j ≤ n) : (chE cs n j).all Ex.flat = true := by
  refine List.all_eq_true.2 fun x hx => ?_
  obtain ⟨k, hk⟩ := List.getElem?_of_mem hx
  have hkl := (List.getElem?_eq_some_iff.1 hk).1
  rw [ch_len] at hkl
  rw [ch_get cs n j k hj hkl] at hk
  have := Option.some.inj hk
  rw [← this]
  split <;> rfl
def hp124 (cs : List Value) (t s : Nat) (ex : Bool) (n j : Nat) : List (CO × Bool) := hpA dd4 cs t s ex ++ [(.cells (chE cs n j) 36 1 true, true)]
section
variable {cs : List Value} {t s : Nat} {ex : Bool} {n : Nat}
theorem flat124 {j : Nat} (hf : cs.all Ex.flat = true) (hj : j ≤ n) : ∀ o, (o, true) ∈ hp124 cs t s ex n j → FlatO o := by
  intro o ho
  unfold hp124 at ho
  rcases List.mem_append.1 ho with ho | ho
  · exact flat_dd hf o ho
  · simp at ho
    subst ho
    exact fun x hx => List.all_eq_true.1 (ch_flat cs n j hj) x hx
theorem c124_round (hf : cs.all Ex.flat = true) (hl : Lds cs n) (hn : n ≤ 1000000) (j : Nat) (ro : Option Nat) (hj : j < n) :
    ∃ tm1 H1, Sound Tryz.prog 5 (.code B124 ro (absT (tmL 26 (st124 n j))) (heapL ((hp124 cs t s ex n j).map (·.1))) []) (.ex .normal tm1 H1 []) ∧ Restate 6 tm1 H1 (absT (tmL 26 (st124 n (j + 1)))) (heapL ((hp124 cs t s ex n (j + 1)).map (·.1))) := by
  have h := round_of (P := Tryz.prog) (G := 5) (C := CL) (n := 30) (f := Fn.list_Changed_3_int_api_Errno) (b := B124) (ro := ro) (tm := tmL 26 (st124 n j)) (H := heapL ((hp124 cs t s ex n j).map (·.1))) (df := []) (df1 := []) (k := 6) (N := 26) (len := 7) (x := .normal) (List.range 6) [(1, fn Fn.rotor_checkLoads), (5, sl 5 0 n n), (11, sl 4 0 n n), (12, i (n : Int)), (13, i (wrapF .i64 ((j : Int) + 1)))] (hp124 cs t s ex n (j + 1)) [true, true, true, true, true]
    [ltF j n, (leF 0 (j : Int) && (ltF j n && decide (n ≤ n))), areCells k3 cs (0 + j * 3), (leF 0 (j : Int) && (ltF j n && decide (n ≤ n))), decide (0 + j * 1 < (chE cs n j).length) && true] tsL lsL (by kernel_rfl) (by kernel_rfl) (by rw [inT hj, ltT hj, hl j hj, ch_len, decide_eq_true (by omega)]; rfl) (by kernel_rfl) (flat124 hf (by omega))
  rw [next_i hj hn] at h
  exact h
theorem c124_end (hf : cs.all Ex.flat = true) (ro : Option Nat) :
    ∃ tm1 H1, Sound Tryz.prog 5 (.code B124 ro (absT (tmL 26 (st124 n n))) (heapL ((hp124 cs t s ex n n).map (·.1))) []) (.ex (.exit 0) tm1 H1 []) ∧ Restate 6 tm1 H1 (absT (tmL 26 [(5, sl 5 0 n n)])) (heapL ((hp124 cs t s ex n n).map (·.1))) :=
  round_of (P := Tryz.prog) (G := 5) (C := CL) (n := 30) (f := Fn.list_Changed_3_int_api_Errno) (b := B124) (ro := ro) (tm := tmL 26 (st124 n n)) (H := heapL ((hp124 cs t s ex n n).map (·.1))) (df := []) (df1 := []) (k := 6) (N := 26) (len := 6) (x := .exit 0) (List.range 6) [(5, sl 5 0 n n)] (hp124 cs t s ex n n) [false]
    [ltF n n] tsL lsL (by kernel_rfl) (by kernel_rfl) (by rw [ltN]; rfl) (by kernel_rfl) (flat124 hf (Nat.le_refl _))
variable (cs t s ex n) in
noncomputable def L124 : LTab := loopE noL Fn.list_Changed_3_int_api_Errno 3 26 6 B124 (st124 n 0) (hp124 cs t s ex n 0) (.leaf (.ex (.exit 0) (tmL 26 [(5, sl 5 0 n n)]) (heapL ((hp124 cs t s ex n n).map (·.1))) []))
theorem ls124 (hf : cs.all Ex.flat = true) (hl : Lds cs n) (hn : n ≤ 1000000) : LSound Tryz.prog 5 (L124 cs t s ex n) := by
  refine LSound.loop .none (by kernel_rfl) (flat124 hf (Nat.zero_le _)) fun r hr ro tm0 H0 hk hst => ?_
  cases hr
  exact count_loop (P := Tryz.prog) (G := 5) (b := B124) (N := 26) (k := 6) (st := st124 n) (hp := hp124 cs t s ex n) (lF := [(5, sl 5 0 n n)]) (x := .exit 0) n (fun h => by cases h)
    (fun j ro hj => c124_round hf hl hn j ro hj) (c124_end hf) ro hk (by omega) hst
noncomputable def T11 : Tb := ext T10 Fn.check_First (lstE OkI (fun cs n => i (firstF (eIE cs) n 0)) [] Hp.nil)
theorem ts11 {G : Nat} : TSound Tryz.prog G T11 := by
  refine ts10.ext (lst_ok (fun cs n c h => h.1) (fun _ _ => rfl) fun cs n c t s ex h => ?_)
  exact f66_small h
theorem ch_first (cs : List Value) (n : Nat) : firstF (eIE (chE cs n n)) n 0 = firstF (eJE cs) n 0 := by
  refine firstF_congr n 0 fun k _ hk => ?_
  unfold eIE
  rw [show 0 + k * 1 = k from by omega, ch_get cs n n k (Nat.le_refl _) (by omega), if_pos (by omega)]
  rfl
theorem ch_ok (cs : List Value) {n : Nat} (hn : n ≤ 1000000) : OkI (chE cs n n) n n := by
  refine ⟨ch_flat cs n n (Nat.le_refl _), fun j hj => ?_, Nat.le_refl _, hn⟩
  rw [show 0 + j * 1 = j from by omega, ch_get cs n n j (Nat.le_refl _) hj, if_pos hj]
  rfl
theorem rec116_small (hf : cs.all Ex.flat = true) (hl : Lds cs n) (hn : n ≤ 1000000) :
    ∃ H', Sound Tryz.prog 5 (.call Fn.rotor_checkRecord ⟨[sl 4 0 n n]⟩ (small1 (.cells cs t s ex))) (.val (i (recE cs n)) H') := by
  let C : Cfg := ⟨T11, spL', syL, L124 cs t s ex n⟩
  obtain ⟨H', hs⟩ := Out.vals_sel (o := execO Tryz.prog 5 C 40 (.call Fn.rotor_checkRecord ⟨[sl 4 0 n n]⟩ (small1 (.cells cs t s ex)))) (v := i (recE cs n)) (by kernel_rfl) (by
    rw [show (execO Tryz.prog 5 C 40 (.call Fn.rotor_checkRecord ⟨[sl 4 0 n n]⟩ (small1 (.cells cs t s ex)))).vals = .br (ltF 400 n) (.leaf (i 5)) (.br (leF 0 n && (leF n n && leF n 1048576)) (.br (tru (OkI (chE cs n n) n n)) (.leaf (i (firstF (eIE (chE cs n n)) n 0))) .fail) .fail) from by kernel_rfl]
    rw [tru_iff.2 (ch_ok cs hn), ch_first]
    unfold recE
    by_cases h4 : (400 : Int) < n
    · simp [VT.sel, ltF_eq, h4]
    · have h1 : (leF 0 (n : Int) && (leF (n : Int) n && leF (n : Int) 1048576)) = true := by simp [leF_eq]; omega
      rw [h1]
      simp [VT.sel, ltF_eq, h4])
  exact ⟨H', execO_sound (C := C) ts11 (ls124 hf hl hn) 40 _ _ hs⟩
end
def OkR (cs : List Value) (n c : Nat) : Prop := cs.all Ex.flat = true ∧ Lds cs n ∧ n ≤ 1000000 ∧ c = n
noncomputable def T12 : Tb := ext (ext T10 Fn.rotor_checkRecord (lstE OkR (fun cs n => i (recE cs n)) [] Hp.nil)) Fn.ref03_CheckRecord (lstE OkR (fun cs n => i (recE cs n)) [] Hp.nil)
theorem ts12 {G : Nat} : TSound Tryz.prog G T12 := by
  refine (ts10.ext (lst_ok (fun cs n c h => h.1) (fun _ _ => rfl) fun cs n c t s ex h => ?_)).ext (lst_ok (fun cs n c h => h.1) (fun _ _ => rfl) fun cs n c t s ex h => ?_)
  · obtain ⟨h1, h2, h3, rfl⟩ := h
    exact rec116_small h1 h2 h3
  · obtain ⟨h1, h2, h3, rfl⟩ := h
    exact rec50_small h1 h2 h3
end Go.Proofs.YtbocpikgochioaaGreatDoor.Ways
