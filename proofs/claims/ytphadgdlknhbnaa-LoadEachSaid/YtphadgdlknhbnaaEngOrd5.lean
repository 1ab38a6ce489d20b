/- Part of the proof. -/
import Derived.Test.YtphadgdlknhbnaaEngOrdA
noncomputable section
namespace Go.Ex
open Go.RowKit
section
variable (w : OTask → Out QRes) (P : Program) (G : Nat) (C : Cfg) (f : Nat) (ops : Array Oper) (N : Nat) (s : SymS) (rho : Nat → List Nat) (ans : Nat → List Bool)
noncomputable def outV (B : List Bool) (i : Nat) : Out (Value × CH) :=
  match ops[i]? with
  | some o => opO w P G C f (tmL N (s.live B)) (heapL (s.hp B)) o
  | none => .fail
noncomputable def obsV (B : List Bool) (i : Nat) : Option (List Bool × Bool × Nat × Nat × List Value × List Value × List (Option CO)) :=
  match ops[i]? with
  | some o => match (outV w P G C f ops N s B i).way (ans i) with
    | some x => some (x.1, o.guard.isNone, (putH (tmL N (s.live B)) o.dst x.2.1).length, x.2.2.length, s.live0.map (fun p => tval (putH (tmL N (s.live B)) o.dst x.2.1) p.1), (s.S.map (fun p => tval (putH (tmL N (s.live B)) o.dst x.2.1) p.1) ++ s.S2.map (fun p => tval (putH (tmL N (s.live B)) o.dst x.2.1) p.1)), (rho i).map fun c => x.2.2[c]?)
    | none => none
  | none => none
end
theorem force_eqP {n : Nat} {pre : Nat → List Nat} {B : List Bool} {i : Nat} (hn : B.length = n) (hB : ∀ i j, B.getD i false = true → j ∈ pre i → B.getD j false = true) (hi : B.getD i false = false) (hp : ∀ j ∈ pre i, B.getD j false = true) : forceN n pre i B = B := by
  apply List.ext_getElem?
  intro j
  unfold forceN
  rw [List.getElem?_map]
  rcases Nat.lt_or_ge j n with h | h
  · rw [List.getElem?_range h]
    have hj : B[j]? = some (B.getD j false) := by
      have : j < B.length := by rw [hn]; exact h
      rw [List.getD_eq_getElem?_getD, List.getElem?_eq_getElem this]; rfl
    rw [hj]
    show some _ = some _
    congr 1
    dsimp only
    cases h1 : Nat.beq j i with
    | true => have := Nat.eq_of_beq_eq_true h1; subst this; exact hi.symm
    | false =>
      cases h2 : memB j (pre i) with
      | true => exact (hp j ((memB_iff _).1 h2)).symm
      | false =>
        cases h3 : memB i (pre j) with
        | true =>
          show false = _
          cases h4 : B.getD j false with
          | false => rfl
          | true =>
            have := hB j i h4 ((memB_iff _).1 h3)
            rw [hi] at this; cases this
        | false => rfl
  · rw [List.getElem?_eq_none (by simpa using h), List.getElem?_eq_none (by rw [hn]; exact h)]; rfl
def pre2 (ops : Array Oper) (i : Nat) : List Nat := preN ops i ++ (preN ops i).flatMap (preN ops)
theorem sym_of2 {w : OTask → Out QRes} {P : Program} {G : Nat} {C : Cfg} {f : Nat} {ops : Array Oper} {N : Nat} {s : SymS} {rho : Nat → List Nat} {ans conds : Nat → List Bool} {len : Nat → Nat} {k : Nat}
    (h1 : ∀ B : List Bool, B.length = ops.size → (List.range ops.size).map (fun i => outV w P G C f ops N s (forceN ops.size (pre2 ops) i B) i) = (List.range ops.size).map fun i => (outV w P G C f ops N s (forceN ops.size (pre2 ops) i B) i).fix)
    (h2 : ∀ B : List Bool, B.length = ops.size → (List.range ops.size).map (fun i => obsV w P G C f ops N s rho ans (forceN ops.size (pre2 ops) i B) i) = (List.range ops.size).map fun i => expY N s rho conds len (forceN ops.size (pre2 ops) i B) i)
    (h3 : ∀ i, conds i = (ans i).take (conds i).length) (h4 : ((List.range ops.size).all fun i => goodY s rho len k i) = true) (h5 : backY ops = true)
    (h0r : (List.range ops.size).map (fun i => s.live0.map fun p => ren (rho i) 8 p.2) = (List.range ops.size).map fun _ => s.live0.map (·.2))
    (hSr : (List.range ops.size).map (fun i => s.S.map fun q => cond (Nat.beq q.2.1 i || memB i (pre2 ops q.2.1)) q.2.2 (ren (rho i) 8 q.2.2)) = (List.range ops.size).map fun _ => s.S.map (·.2.2))
    (hBr : (List.range ops.size).map (fun i => s.hp0.map fun p => cond p.2 p.1 (renO (rho i) p.1)) = (List.range ops.size).map fun _ => s.hp0.map (·.1))
    (hf0 : ∀ o, (o, true) ∈ s.hp0 → FlatO o) (hfl : ∀ q ∈ s.A, FlatO q.2.1 ∧ FlatO q.2.2.2) (hfl2 : ∀ q ∈ s.A2, FlatO q.2.1 ∧ FlatO q.2.2.2.1 ∧ FlatO q.2.2.2.2.2 := by exact fun _ hq => absurd hq List.not_mem_nil)
    (hS2r : (List.range ops.size).map (fun i => s.S2.map fun q => (ren (rho i) 8 q.2.2.1, cond (Nat.beq q.2.1 i || memB i (pre2 ops q.2.1)) q.2.2.2 (ren (rho i) 8 q.2.2.2))) = (List.range ops.size).map fun _ => s.S2.map fun q => (q.2.2.1, q.2.2.2) := by rfl)
    (hBrT : (List.range ops.size).map (fun i => s.T.map fun p => cond p.2 p.1 (renO (rho i) p.1)) = (List.range ops.size).map fun _ => s.T.map (·.1) := by rfl) (hfT : ∀ o, (o, true) ∈ s.T → FlatO o := by exact fun _ ho => absurd ho List.not_mem_nil) :
    Orders (selfA (qS w)) P G ops k (fun m => m < 2 ^ ops.size ∧ GoodY ops (bitsL ops.size m)) (fun m => absT (tmL N (s.live (bitsL ops.size m)))) (fun m => heapL (s.hp (bitsL ops.size m))) (2 ^ ops.size - 1) := by
  refine ⟨fun m hm i hi => ?_, fun m hm hr => ?_⟩
  · obtain ⟨r1, o, ho, r2⟩ := mem_ready.1 hi
    have hlt : i < ops.size := (Array.getElem?_eq_some_iff.1 ho).1
    have hiB : (bitsL ops.size m).getD i false = false := by
      have := not_inD r1
      unfold inD at this
      rw [arrB_getD] at this
      simpa using this
    have hpre : ∀ j ∈ preN ops i, (bitsL ops.size m).getD j false = true := by
      intro j hj
      obtain ⟨e, e1, e2, rfl⟩ := (mem_preN ho).1 hj
      rw [← arrB_getD]
      exact r2 e e1 e2
    have hcl : ∀ a b, (bitsL ops.size m).getD a false = true → b ∈ pre2 ops a → (bitsL ops.size m).getD b false = true := fun a b ha hb => by
      rcases List.mem_append.1 hb with hb | hb
      · exact hm.2.2 a b ha hb
      · obtain ⟨c, hc, hb⟩ := List.mem_flatMap.1 hb
        exact hm.2.2 c b (hm.2.2 a c ha hc) hb
    have hforce := force_eqP (pre := pre2 ops) hm.2.1 hcl hiB (fun j hj => by
      rcases List.mem_append.1 hj with hj | hj
      · exact hpre j hj
      · obtain ⟨c, hc, hj⟩ := List.mem_flatMap.1 hj
        exact hm.2.2 c j (hpre c hc) hj)
    have hmemF : ∀ {a : Nat}, (bitsL ops.size m).getD a false = true → memB i (pre2 ops a) = false := fun {a} ha => by
      cases hh : memB i (pre2 ops a) with
      | false => rfl
      | true =>
        have := hcl a i ha ((memB_iff _).1 hh)
        rw [hiB] at this; cases this
    have hmem := List.mem_range.2 hlt
    have q1 := map_eq_mem _ (h1 (bitsL ops.size m) (bitsL_len _ _)) i hmem
    have q2 := map_eq_mem _ (h2 (bitsL ops.size m) (bitsL_len _ _)) i hmem
    have q4 := List.all_eq_true.1 h4 i hmem
    have q6 := map_eq_mem _ h0r i hmem
    have q7 := map_eq_mem _ hSr i hmem
    have q8 := map_eq_mem _ hBr i hmem
    have q9 := map_eq_mem _ hS2r i hmem
    try dsimp only at q9
    have q10 := map_eq_mem _ hBrT i hmem
    try dsimp only at q10
    try dsimp only at q1
    try dsimp only at q2
    try dsimp only at q6
    try dsimp only at q7
    try dsimp only at q8
    rw [hforce] at q1 q2
    unfold obsV expY at q2
    rw [ho] at q2
    dsimp only at q2
    split at q2
    case h_2 => cases q2
    rename_i x hx
    obtain ⟨cs, v, H1⟩ := x
    simp only [Option.some.injEq, Prod.mk.injEq] at q2
    obtain ⟨rfl, hng, hN, hlen, hl0, hlS', hheap⟩ := q2
    obtain ⟨hlS, hlS2⟩ := List.append_inj hlS' (by rw [List.length_map, List.length_map])
    have hsel := Out.way_sel q1 hx (h3 i)
    unfold outV at hsel
    rw [ho] at hsel
    have hop := opO_sel hsel
    unfold goodY at q4
    simp only [Bool.and_eq_true, beq_iff_eq, decide_eq_true_eq] at q4
    obtain ⟨g1, g2, g3, g4, g5, g6, g7, g8, g9, g10⟩ := q4
    have hil : i < (bitsL ops.size m).length := by rw [bitsL_len]; exact hlt
    have hset : (bitsL ops.size m).set i true = bitsL ops.size (m ||| 2 ^ i) := bitsL_set hlt
    rw [hset] at hheap
    have hget := getD_set_true hil
    rw [hset] at hget
    refine ⟨o, v, H1, ho, by simpa using hng, hop, ⟨Nat.or_lt_two_pow hm.1 (Nat.pow_lt_pow_right (by omega) hlt), bitsL_len _ _, fun a b ha hb => ?_⟩, ?_⟩
    · rw [hget] at ha ⊢
      by_cases hib : i = b
      · rw [if_pos hib]
      · rw [if_neg hib]
        by_cases hia : i = a
        · subst hia; exact hpre b hb
        · rw [if_neg hia] at ha; exact hm.2.2 a b ha hb
    · rw [← putH_abs]
      refine restate_sym (i := i) (ρ := rho i) (B := bitsL ops.size m) (fun j hj => by rw [hget, if_neg (fun h => hj h.symm)]) hN (Nat.eq_of_beq_eq_true g1) (Nat.le_of_ble_eq_true g2) g3 g4 (fun c hc => by rw [hlen]; exact blt_lt (List.all_eq_true.1 g5 c hc)) hl0 (fun p hp => map_eq_mem _ q6 p hp) g6 hlS (fun q hq hne hB => ?_) g7 hlS2 (fun q hq => ?_) g9 (by rw [hget, if_pos rfl]) hheap (fun p hp => ?_) (fun p hp => ?_) hfl hfl2
      · have := map_eq_mem _ q7 q hq
        rw [Bool.eq_false_iff.2 (fun h => hne (Nat.eq_of_beq_eq_true h)), Bool.false_or, hmemF hB] at this
        exact this
      · have h5 := map_eq_mem _ q9 q hq
        try dsimp only at h5
        obtain ⟨h6, h7⟩ := Prod.mk.inj h5
        refine ⟨h6, fun hne hB => ?_⟩
        rw [Bool.eq_false_iff.2 (fun h => hne (Nat.eq_of_beq_eq_true h)), Bool.false_or, hmemF hB] at h7
        exact h7
      · have h9 := map_eq_mem _ q8 p hp
        obtain ⟨o', fl⟩ := p
        cases fl with
        | true => exact flat_RO (hf0 o' hp)
        | false =>
          have hk := List.all_eq_true.1 g8 (o', false) hp
          have h8 := renO_RO (ρ := rho i) (o := o') (by simpa using hk)
          rw [show renO (rho i) o' = o' from h9] at h8
          exact h8
      · have h9 := map_eq_mem _ q10 p hp
        obtain ⟨o', fl⟩ := p
        cases fl with
        | true => exact flat_RO (hfT o' hp)
        | false =>
          have hk := List.all_eq_true.1 g10 (o', false) hp
          have h8 := renO_RO (ρ := rho i) (o := o') (by simpa using hk)
          rw [show renO (rho i) o' = o' from h9] at h8
          exact h8
  · have hall : ∀ i, i < ops.size → (bitsL ops.size m).getD i false = true := by
      intro i
      induction i using Nat.strongRecOn with
      | _ i ih =>
        intro hlt
        cases hb : (bitsL ops.size m).getD i false with
        | true => rfl
        | false =>
          exfalso
          have ho : ops[i]? = some ops[i] := Array.getElem?_eq_getElem hlt
          have hmem : i ∈ Region.ready .any ops (arrB ops.size m) := by
            refine mem_ready.2 ⟨?_, ops[i], ho, ?_⟩
            · rw [← arrB_getD] at hb
              have hsz : i < (arrB ops.size m).size := by rw [arrB_size]; exact hlt
              simpa [Array.getD_eq_getD_getElem?, Array.getElem?_eq_getElem hsz] using hb
            · intro e he hbd
              rw [arrB_getD]
              have hin := (mem_preN ho).2 ⟨e, he, hbd, rfl⟩
              have h6 := blt_lt (List.all_eq_true.1 (List.all_eq_true.1 h5 i (List.mem_range.2 hlt)) _ hin)
              exact ih _ h6 (by omega)
          rw [hr] at hmem
          cases hmem
    apply Nat.eq_of_testBit_eq
    intro i
    rw [Nat.testBit_two_pow_sub_one]
    rcases Nat.lt_or_ge i ops.size with h | h
    · have := hall i h
      rw [bitsL_getD] at this
      simpa [h] using this
    · have hlt : m < 2 ^ i := Nat.lt_of_lt_of_le hm.1 (Nat.pow_le_pow_right (by omega) h)
      rw [Nat.testBit_lt_two_pow hlt]; simp [Nat.not_lt.2 h]
end Go.Ex
