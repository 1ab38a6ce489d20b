import Derived.Test.YtdnogbdfiahcaaaGreatWr1
import Derived.Test.YtdnogbdfiahcaaaGreatEngMk
namespace Go.Proofs.YtdnogbdfiahcaaaGreat.Ways
open Go Go.Ex Go.RowKit
/-! ### the reference's Persist: two loops in one another, a list that grows -/
noncomputable def spB : Nat → Nat → Split := at_ [(17, 21), (17, 29), (17, 44), (23, 14), (23, 24), (23, 30), (23, 36)] .bool no_
def syBz : Nat → Nat → Bool := on_ [(23, 29), (23, 30)]
def syB : Nat → Nat → Bool := on_ [(17, 25), (17, 41), (17, 45), (17, 100045), (23, 29), (23, 30), (23, 38), (23, 300038)]
noncomputable def B23 : Code := bodyL Tryz.f23 3
noncomputable def B23i : Code := bodyL Tryz.f23 7
def mx (a b : Int) : Int := if b > a then b else a
def k0 (j y : Int) : Int := mx 0 (wrapF .i64 (wrapF .i64 (j - y) + 1))
inductive PS where
  | z
  | m (j : Int) (l : Nat) (out : List Value)
section
variable (bs : List Value) (t s n c : Nat) (ex : Bool) (x y : Int)
def hpz : List (CO × Bool) := [(.dead, false), (.cells bs t s ex, true)]
def hpm (out : List Value) : List (CO × Bool) := [(.dead, false), (.cells bs t s ex, true), (.cells out 4 1 false, true)]
def SPi (ov : Value) (hp : List (CO × Bool)) (j : Int) : Shape (Int × Int) := ⟨40, fun q => ⟨[(0, sl 1 0 n c), (1, i x), (2, i y), (7, ov), (8, i j), (9, i q.2), (10, i q.1)], hp⟩, fun _ q => (.exit 2, ⟨[(0, sl 1 0 n c), (1, i x), (2, i y), (7, ov), (8, i j), (9, i q.2)], hp⟩)⟩
def stPi (len : Nat) (ρ : List Nat) (j : Int) (q : Int × Int) : SS (Int × Int) := .br (leF q.1 j) (askS (bnd_ q.1 n c) <| askS (cb bs q.1) <| .br (bO bs q.1.toNat) (.next len ρ (wrapF .i64 (q.1 + 1), wrapF .i64 (q.2 + 1))) (.next len ρ (wrapF .i64 (q.1 + 1), q.2))) (.done len ρ 0)
/-- how many of the last ones are true -/
def pC (j y : Int) : Int := ((cntB bs (j.toNat + 1 - y.toNat) (j.toNat + 1 - (j.toNat + 1 - y.toNat)) : Nat) : Int)
def inP (j : Int) : Bool := decide (1 ≤ y) && (decide (y ≤ 1024) && bnd_ j n c)
def SP : Shape PS := ⟨40, fun q => match q with
  | .z => ⟨[(0, sl 1 0 n c), (1, i x), (2, i y), (7, .slice none 0 0), (8, i 0)], hpz bs t s ex⟩
  | .m j l out => ⟨[(0, sl 1 0 n c), (1, i x), (2, i y), (7, sl 2 0 l l), (8, i j)], hpm bs t s ex out⟩,
  fun _ q => match q with
  | .z => (.exit 0, ⟨[(7, .slice none 0 0)], hpz bs t s ex⟩)
  | .m _ l out => (.exit 0, ⟨[(7, sl 2 0 l l)], hpm bs t s ex out⟩)⟩
noncomputable def CP : PS → Cfg
  | .z => ⟨T7, spB, syBz, loopE noL 23 7 40 2 B23i ((SPi n c x y (.slice none 0 0) (hpz bs t s ex) 0).st (k0 0 y, 0)).live (hpz bs t s ex) (.br (inP n c y 0) (finO (SPi n c x y (.slice none 0 0) (hpz bs t s ex) 0) (0, (1, pC bs 0 y)) [0]) .fail)⟩
  | .m j l out => ⟨T7, spB, syB, loopE noL 23 7 40 3 B23i ((SPi n c x y (sl 2 0 l l) (hpm bs t s ex out) j).st (k0 j y, 0)).live (hpm bs t s ex out) (.br (inP n c y j) (finO (SPi n c x y (sl 2 0 l l) (hpm bs t s ex out) j) (0, (wrapF .i64 (j + 1), pC bs j y)) [0]) .fail)⟩
def nPz (b : Bool) : SS PS := .next 4 [0, 1, 3] (.m 1 1 [b_ b])
def nPm (j : Int) (l : Nat) (out : List Value) (b : Bool) : SS PS := askS (full l out) (.next 5 [0, 1, 4] (.m (wrapF .i64 (j + 1)) (l + 1) (out ++ [b_ b])))
def stP : PS → SS PS
  | .z => .br (ltF 0 n) (askS (inP n c y 0) <| askS true <| .br (leF x (pC bs 0 y)) (nPz true) (nPz false)) (.done 2 [0, 1] 0)
  | .m j l out => .br (ltF j n) (askS (inP n c y j) <| askS true <| .br (leF x (pC bs j y)) (nPm j l out true) (nPm j l out false)) (.done 3 [0, 1, 2] 0)
end
def GdP : PS → Prop
  | .z => True
  | .m _ _ out => out.all Ex.flat = true
section
variable {bs : List Value} {t s n c : Nat} {ex : Bool} {x y : Int}
theorem hpm_flat {out : List Value} (h : bs.all Ex.flat = true) (h2 : out.all Ex.flat = true) : ∀ o, (o, true) ∈ hpm bs t s ex out → FlatO o := by
  intro o ho
  simp [hpm] at ho
  rcases ho with rfl | rfl
  · exact fun x hx => List.all_eq_true.1 h x hx
  · exact fun x hx => List.all_eq_true.1 h2 x hx
theorem LPz (h : bs.all Ex.flat = true) : Loop1 Tryz.prog 2 23 B23i (SPi n c x y (.slice none 0 0) (hpz bs t s ex) 0) 2 (stPi bs n c 2 [0, 1] 0) (fun _ => True) :=
  .mk' (C := fun _ => ⟨T7, spB, syBz, noL⟩) (n := 40) (fun _ _ => ts7) (fun _ _ => .none) (fun s ro _ => by kernel_rfl) (fun s ro _ => by kernel_rfl) (fun s => by kernel_rfl) (fun _ _ _ _ => trivial) (fun _ _ => hpI_flat h) (fun _ _ _ _ => ⟨hpI_flat h, fun h => by cases h⟩)
theorem LPm {j : Int} {l : Nat} {out : List Value} (h : bs.all Ex.flat = true) (h2 : out.all Ex.flat = true) : Loop1 Tryz.prog 2 23 B23i (SPi n c x y (sl 2 0 l l) (hpm bs t s ex out) j) 3 (stPi bs n c 3 [0, 1, 2] j) (fun _ => True) :=
  .mk' (C := fun _ => ⟨T7, spB, syBz, noL⟩) (n := 40) (fun _ _ => ts7) (fun _ _ => .none) (fun s ro _ => by kernel_rfl) (fun s ro _ => by kernel_rfl) (fun s => by kernel_rfl) (fun _ _ _ _ => trivial) (fun _ _ => hpm_flat h h2) (fun _ _ _ _ => ⟨hpm_flat h h2, fun h => by cases h⟩)
theorem goodP : ∀ q q', GdP q → (stP bs n c x y q).sel = some (.inl q') → GdP q' := by
  intro q q' hg h
  cases q with
  | z =>
    rcases br_or' h with h | h
    · rcases br_or' (ask_or' (ask_or' h)) with h | h <;> cases h <;> rfl
    · cases h
  | m j l out =>
    rcases br_or' h with h | h
    · rcases br_or' (ask_or' (ask_or' h)) with h | h
      · have h := ask_or' h
        cases h
        show (out ++ [b_ true]).all Ex.flat = true
        have hg' : out.all Ex.flat = true := hg
        rw [List.all_append, hg']; rfl
      · have h := ask_or' h
        cases h
        show (out ++ [b_ false]).all Ex.flat = true
        have hg' : out.all Ex.flat = true := hg
        rw [List.all_append, hg']; rfl
    · cases h
theorem LP (h : bs.all Ex.flat = true) (hL : ∀ q, GdP q → LSound Tryz.prog 2 (CP bs t s n c ex x y q).L) : Loop1 Tryz.prog 2 23 B23 (SP bs t s n c ex x y) 2 (stP bs n c x y) GdP :=
  .mk' (C := CP bs t s n c ex x y) (n := 40) (fun q _ => by cases q <;> exact ts7) (fun q hq => hL q hq) (fun q ro _ => by cases q <;> kernel_rfl) (fun q ro _ => by cases q <;> kernel_rfl) (fun q => by cases q <;> kernel_rfl) goodP
    (fun q hq => by
      cases q with
      | z => exact hpI_flat h
      | m j l out => exact hpm_flat h hq)
    (fun q j hq _ => by
      cases q with
      | z => exact ⟨hpI_flat h, fun h => by cases h⟩
      | m j l out => exact ⟨hpm_flat h hq, fun h => by cases h⟩)
end
end Go.Proofs.YtdnogbdfiahcaaaGreat.Ways
namespace Go.Proofs.YtdnogbdfiahcaaaGreat.Ways
open Go Go.Ex Go.RowKit
theorem inP_of {n c : Nat} {y j : Int} (h : inP n c y j = true) : ∃ Y J : Nat, y = Y ∧ j = J ∧ 1 ≤ Y ∧ Y ≤ 1024 ∧ J < n ∧ n ≤ c := by
  unfold inP bnd_ at h
  simp only [leF_eq, ltF_eq, Bool.and_eq_true, decide_eq_true_eq] at h
  exact ⟨y.toNat, j.toNat, by omega, by omega, by omega, by omega, by omega, by omega⟩
theorem inP_t {n c Y J : Nat} (h1 : 1 ≤ Y) (h2 : Y ≤ 1024) (h3 : J < n) (h4 : n ≤ c) : inP n c (Y : Int) (J : Int) = true := by
  unfold inP
  rw [decide_eq_true (by omega), decide_eq_true (by omega), bnd_t h3 h4]; rfl
theorem k0_eq {J Y : Nat} (h1 : 1 ≤ Y) (h2 : Y ≤ 1024) (h3 : J < 1000000) : k0 (J : Int) (Y : Int) = ((J + 1 - Y : Nat) : Int) := by
  unfold k0 mx
  rw [wrapF_in (show -9223372036854775808 ≤ (J : Int) - Y by omega) (by omega), wrapF_in (by omega) (by omega)]
  by_cases h : (J : Int) - Y + 1 > 0
  · rw [if_pos h]; omega
  · rw [if_neg h]; omega
theorem bF_bO (bs : List Value) (K l : Nat) : bF bs K l = bO bs (K + l) := by
  unfold bF bO
  rw [show K + l * 1 = 0 + (K + l) * 1 from by omega]
theorem runPi {bs : List Value} {n c len : Nat} {ρ : List Nat} {y j : Int} (h : okB bs n c) (hp : inP n c y j = true) : ∃ x, runS (stPi bs n c len ρ j) x (k0 j y, 0) = some (0, (wrapF .i64 (j + 1), pC bs j y)) := by
  obtain ⟨Y, J, rfl, rfl, h1, h2, h3, h4⟩ := inP_of hp
  have hl := h.2.2.1
  rw [k0_eq h1 h2 (by omega), wsucc (by omega)]
  unfold pC
  rw [show ((J : Nat) : Int).toNat = J from rfl, show ((Y : Nat) : Int).toNat = Y from rfl]
  generalize hK : J + 1 - Y = K
  have key := run_all (step := stPi bs n c len ρ (J : Int)) (st := fun l => (((K + l : Nat) : Int), ((cntB bs K l : Nat) : Int))) (a := 0) (J + 1 - K) (fun l hl' => ?_) ?_
  · refine ⟨J + 1 - K + 1, ?_⟩
    rw [show (((J + 1 : Nat) : Nat) : Int) = ((K + (J + 1 - K) : Nat) : Int) from by omega]
    exact key
  · have hle := cntB_le bs K l
    unfold stPi
    dsimp only
    rw [br_t (by rw [leF_eq]; exact decide_eq_true (by omega)), askS_sel (bnd_t (by omega) h4), askS_sel (cb_t h (by omega)), show ((K + l : Nat) : Int).toNat = K + l from rfl, ← bF_bO]
    cases hb : bF bs K l with
    | true =>
      have e1 : cntB bs K (l + 1) = cntB bs K l + 1 := by show (if _ then _ else _) = _; rw [if_pos hb]
      rw [br_t rfl, e1, wsucc (by omega), wsucc (by omega)]; rfl
    | false =>
      have e1 : cntB bs K (l + 1) = cntB bs K l := by show (if _ then _ else _) = _; rw [if_neg (by rw [hb]; decide)]
      rw [br_f rfl, e1, wsucc (by omega)]; rfl
  · unfold stPi
    dsimp only
    rw [br_f (by rw [leF_eq]; exact decide_eq_false (by omega))]; rfl
def perN (bs : List Value) (x y : Int) (j : Nat) : Bool := leF x (pC bs (j : Int) y)
def perO (bs : List Value) (x y : Int) : Nat → List Value
  | 0 => []
  | j + 1 => perO bs x y j ++ [b_ (perN bs x y j)]
theorem perO_len (bs : List Value) (x y : Int) : ∀ j, (perO bs x y j).length = j
  | 0 => rfl
  | j + 1 => by
    unfold perO
    rw [List.length_append, perO_len bs x y j]; rfl
theorem perO_flat (bs : List Value) (x y : Int) : ∀ j, (perO bs x y j).all Ex.flat = true
  | 0 => rfl
  | j + 1 => by
    unfold perO
    rw [List.all_append, perO_flat bs x y j]; rfl
def psT (bs : List Value) (x y : Int) : Nat → PS
  | 0 => .z
  | j + 1 => .m ((j + 1 : Nat) : Int) (j + 1) (perO bs x y (j + 1))
theorem run23 {bs : List Value} {n c Y : Nat} {x : Int} (h : okB bs n c) (h1 : 1 ≤ Y) (h2 : Y ≤ 1024) : runS (stP bs n c x Y) (n + 1) .z = some (0, psT bs x Y n) := by
  have hl := h.2.2.1
  refine run_all (st := psT bs x Y) n (fun j hj => ?_) ?_
  · have hT : psT bs x Y (j + 1) = .m ((j + 1 : Nat) : Int) (j + 1) (perO bs x Y j ++ [b_ (leF x (pC bs (j : Int) Y))]) := rfl
    rw [hT]
    cases j with
    | zero =>
      show (stP bs n c x Y .z).sel = _
      unfold stP
      rw [br_t (by rw [ltF_eq]; simpa using hj), askS_sel (show inP n c Y 0 = true from inP_t (J := 0) h1 h2 hj h.2.1), askS_sel rfl]
      show (SS.br (leF x (pC bs 0 Y)) (nPz true) (nPz false)).sel = some (.inl (.m 1 1 [b_ (leF x (pC bs 0 Y))]))
      cases leF x (pC bs 0 Y) <;> rfl
    | succ j =>
      show (stP bs n c x Y (.m ((j + 1 : Nat) : Int) (j + 1) (perO bs x Y (j + 1)))).sel = _
      have hN : ∀ b, (nPm ((j + 1 : Nat) : Int) (j + 1) (perO bs x Y (j + 1)) b).sel = some (.inl (.m ((j + 1 + 1 : Nat) : Int) (j + 1 + 1) (perO bs x Y (j + 1) ++ [b_ b]))) := by
        intro b
        unfold nPm
        rw [askS_sel (full_t (perO_len bs x Y _) (by omega)), wsucc (by omega)]; rfl
      unfold stP
      dsimp only
      rw [br_t (by rw [ltF_eq]; exact decide_eq_true (by omega)), askS_sel (inP_t h1 h2 hj h.2.1), askS_sel rfl]
      cases leF x (pC bs ((j + 1 : Nat) : Int) Y) with
      | true => rw [br_t rfl, hN]
      | false => rw [br_f rfl, hN]
  · cases n with
    | zero => rfl
    | succ n =>
      show (stP bs (n + 1) c x Y (.m ((n + 1 : Nat) : Int) _ _)).sel = _
      unfold stP
      dsimp only
      rw [br_f (by rw [ltF_eq]; simp)]; rfl
section
variable (bs : List Value) (t s n c : Nat) (ex : Bool) (x y : Int)
noncomputable def K23 (r : Nat × PS) : Cfg := ⟨T7, spB, syB, loopE noL 23 3 40 2 B23 ((SP bs t s n c ex x y).st .z).live ((SP bs t s n c ex x y).st .z).hp (finO (SP bs t s n c ex x y) r [0])⟩
noncomputable def o23 (r : Nat × PS) : Out QRes := execO Tryz.prog 2 (K23 bs t s n c ex x y r) 60 (.call 23 ⟨[sl 1 0 n c, i x, i y]⟩ (heapL (deads ++ [.cells bs t s ex])))
theorem v23z : (o23 bs t s n c ex x y (0, .z)).news = .br true (.leaf 1000000 (.old (.slice none 0 0))) .fail := by kernel_rfl
theorem x23z : o23 bs t s n c ex x y (0, .z) = (o23 bs t s n c ex x y (0, .z)).fix := by kernel_rfl
variable (j : Int) (l : Nat) (out : List Value)
theorem v23m : (o23 bs t s n c ex x y (0, .m j l out)).news = .br true (.leaf 2 (.sl l l out 4 1 false)) .fail := by kernel_rfl
theorem x23m : o23 bs t s n c ex x y (0, .m j l out) = (o23 bs t s n c ex x y (0, .m j l out)).fix := by kernel_rfl
end
theorem n23 {bs : List Value} {t s n c : Nat} {ex : Bool} {x y : Int} {r : Nat × PS} {b : Nat} {q : NRes} (hL : LSound Tryz.prog 2 (K23 bs t s n c ex x y r).L) (hf : o23 bs t s n c ex x y r = (o23 bs t s n c ex x y r).fix)
    (h : (o23 bs t s n c ex x y r).news.sel = some (b, q)) (hb : 2 ≤ b) (hfl : q.Fl) : q.Ok Tryz.prog 23 [sl 1 0 n c, i x, i y] deads [.cells bs t s ex] 2 :=
  news_ok (C := K23 bs t s n c ex x y r) (n := 60) ts7 hL hf h hb hfl
theorem LP' {bs : List Value} {t s n c : Nat} {ex : Bool} {x y : Int} (h : okB bs n c) : Loop1 Tryz.prog 2 23 B23 (SP bs t s n c ex x y) 2 (stP bs n c x y) GdP :=
  LP h.1 fun q hq => by
    cases q with
    | z => exact (LPz (t := t) (s := s) (ex := ex) (x := x) (y := y) h.1).tableIf (id := 7) .none (by decide) trivial (fun hk => runPi h hk) (by kernel_rfl) [0]
    | m j l out => exact (LPm (t := t) (s := s) (ex := ex) (x := x) (y := y) h.1 hq).tableIf (id := 7) .none (by decide) trivial (fun hk => runPi h hk) (by kernel_rfl) [0]
def sp23z : NSpec := fun al css => match al, css with
  | [.slice (some ⟨1, 0, none⟩) n c, .int .i64 _, .int .i64 y], [bs] => some (okB bs n c ∧ 1 ≤ y ∧ y ≤ 1024 ∧ n = 0, .old (.slice none 0 0))
  | _, _ => none
def sp23m : NSpec := fun al css => match al, css with
  | [.slice (some ⟨1, 0, none⟩) n c, .int .i64 x, .int .i64 y], [bs] => some (okB bs n c ∧ 1 ≤ y ∧ y ≤ 1024 ∧ n ≠ 0, .sl n n (perO bs x y n) 4 1 false)
  | _, _ => none
theorem c23z : ∀ al css os p v, sp23z al css = some (p, v) → p → Blks css os → (∀ cs ∈ css, cs.all Ex.flat = true) ∧ v.Ok Tryz.prog 23 al deads os (gl + css.length) := by
  intro al css os p v hs hp hb
  unfold sp23z at hs
  split at hs
  case h_2 => cases hs
  rename_i n c x y bs
  cases hs
  obtain ⟨t, s, ex, rfl⟩ := blks1 hb
  obtain ⟨p1, p2, p3, rfl⟩ := hp
  obtain ⟨Y, rfl⟩ : ∃ Y : Nat, y = Y := ⟨y.toNat, by omega⟩
  refine ⟨by simpa using p1.1, ?_⟩
  have hL := (LP' (t := t) (s := s) (ex := ex) (x := x) (y := (Y : Int)) p1).table (id := 3) (s0 := .z) .none (by decide) trivial (run23 p1 (by omega) (by omega)) (by kernel_rfl) [0]
  exact n23 (r := (0, .z)) hL (x23z bs t s 0 c ex x Y) (b := 1000000) (by rw [v23z]; rfl) (by decide) rfl
theorem c23m : ∀ al css os p v, sp23m al css = some (p, v) → p → Blks css os → (∀ cs ∈ css, cs.all Ex.flat = true) ∧ v.Ok Tryz.prog 23 al deads os (gl + css.length) := by
  intro al css os p v hs hp hb
  unfold sp23m at hs
  split at hs
  case h_2 => cases hs
  rename_i n c x y bs
  cases hs
  obtain ⟨t, s, ex, rfl⟩ := blks1 hb
  obtain ⟨p1, p2, p3, p4⟩ := hp
  obtain ⟨Y, rfl⟩ : ∃ Y : Nat, y = Y := ⟨y.toNat, by omega⟩
  obtain ⟨k, rfl⟩ : ∃ k, n = k + 1 := ⟨n - 1, by omega⟩
  refine ⟨by simpa using p1.1, ?_⟩
  have hL := (LP' (t := t) (s := s) (ex := ex) (x := x) (y := (Y : Int)) p1).table (id := 3) (s0 := .z) .none (by decide) trivial (run23 p1 (by omega) (by omega)) (by kernel_rfl) [0]
  exact n23 (r := (0, psT bs x Y (k + 1))) hL (x23m bs t s (k + 1) c ex x Y _ _ _) (b := 2) (by rw [show o23 bs t s (k + 1) c ex x Y (0, psT bs x Y (k + 1)) = o23 bs t s (k + 1) c ex x Y (0, .m _ _ _) from rfl, v23m]; rfl) (by decide) (perO_flat bs x Y (k + 1))
noncomputable def T8 : Tb := ext (ext T7 23 (newE sp23z [] (heapL deads))) 1000023 (newE sp23m [] (heapL deads))
theorem ts8 {G : Nat} : TSound Tryz.prog G T8 := (ts7.new c23z).new c23m
end Go.Proofs.YtdnogbdfiahcaaaGreat.Ways
namespace Go.Proofs.YtdnogbdfiahcaaaGreat.Ways
open Go Go.Ex Go.RowKit
/-! ### the program's Persist: a list that is made, cuts and stores at places that are not known -/
noncomputable def B17 : Code := bodyL Tryz.f17 6
def k0' (j y : Int) : Int := mx (wrapF .i64 (wrapF .i64 (j - y) + 1)) 0
def i0 (n : Nat) : List Value := (zeroRow #[b_ false] ((n : Int).toNat * 1)).toList
section
variable (bs : List Value) (t s n c : Nat) (ex : Bool) (x y : Int)
def hpQ (out : List Value) : List (CO × Bool) := [(.dead, false), (.cells bs t s ex, true), (.dead, false), (.cells out 4 1 true, true)]
def SQ : Shape (Int × List Value) := ⟨48, fun q => ⟨[(0, sl 1 0 n c), (1, i x), (2, i y), (9, sl 3 0 n n), (27, i n), (28, i q.1)], hpQ bs t s ex q.2⟩, fun _ q => (.exit 0, ⟨[(9, sl 3 0 n n)], hpQ bs t s ex q.2⟩)⟩
def inQ (j : Int) : Bool := leF 0 (k0' j y) && (leF (k0' j y) (wrapF .i64 (j + 1)) && leF (wrapF .i64 (j + 1)) c)
def oQ (j : Int) : Nat := 0 + (k0' j y).toNat * 1
def lQ (j : Int) : Nat := (wrapF .i64 (j + 1)).toNat - (k0' j y).toNat
def nQ (j : Int) (out : List Value) (b : Bool) : SS (Int × List Value) := askS (bnd_ j n n) <| askS (decide (0 + j.toNat * 1 < out.length) && true) <| .next 4 [0, 1, 2, 3] (wrapF .i64 (j + 1), out.set (0 + j.toNat * 1) (b_ b))
noncomputable def stQ (q : Int × List Value) : SS (Int × List Value) := .br (ltF q.1 n) (askS (inQ c y q.1) <| askS (tru (okF bs (oQ y q.1) (lQ y q.1) (c - (k0' q.1 y).toNat))) <|
  .br (leF x ((cntB bs (oQ y q.1) (lQ y q.1) : Nat) : Int)) (nQ n q.1 q.2 true) (nQ n q.1 q.2 false)) (.done 4 [0, 1, 2, 3] 0)
noncomputable def KQ (r : Nat × Int × List Value) : Cfg := ⟨T8, spB, syB, loopE noL 17 6 48 4 B17 ((SQ bs t s n c ex x y).st (0, i0 n)).live ((SQ bs t s n c ex x y).st (0, i0 n)).hp (finO (SQ bs t s n c ex x y) r [0])⟩
noncomputable def o17 (r : Nat × Int × List Value) : Out QRes := execO Tryz.prog 2 (KQ bs t s n c ex x y r) 60 (.call 17 ⟨[sl 1 0 n c, i x, i y]⟩ (heapL (deads ++ [.cells bs t s ex])))
end
section
variable {bs : List Value} {t s n c : Nat} {ex : Bool} {x y : Int}
theorem hpQ_flat {out : List Value} (h : bs.all Ex.flat = true) (h2 : out.all Ex.flat = true) : ∀ o, (o, true) ∈ hpQ bs t s ex out → FlatO o := by
  intro o ho
  simp [hpQ] at ho
  rcases ho with rfl | rfl
  · exact fun x hx => List.all_eq_true.1 h x hx
  · exact fun x hx => List.all_eq_true.1 h2 x hx
theorem goodQ : ∀ q q', Gd2 q → (stQ bs n c x y q).sel = some (.inl q') → Gd2 q' := by
  intro q q' hg h
  have hz : ∀ {b : Bool}, (nQ n q.1 q.2 b).sel = some (.inl q') → Gd2 q' := fun h => by
    have h := ask_or' (ask_or' h)
    cases h
    exact all_set hg rfl
  rcases br_or' h with h | h
  · rcases br_or' (ask_or' (ask_or' h)) with h | h
    · exact hz h
    · exact hz h
  · cases h
theorem LQ (h : bs.all Ex.flat = true) : Loop1 Tryz.prog 2 17 B17 (SQ bs t s n c ex x y) 4 (stQ bs n c x y) Gd2 :=
  .mk' (C := fun _ => ⟨T8, spB, syB, noL⟩) (n := 40) (fun _ _ => ts8) (fun _ _ => .none) (fun q ro _ => by kernel_rfl) (fun q ro _ => by kernel_rfl) (fun q => by kernel_rfl) goodQ
    (fun q hq => hpQ_flat h hq) (fun q j hq _ => ⟨hpQ_flat h hq, fun h => by cases h⟩)
end
end Go.Proofs.YtdnogbdfiahcaaaGreat.Ways
namespace Go.Proofs.YtdnogbdfiahcaaaGreat.Ways
open Go Go.Ex Go.RowKit
theorem i0_len (n : Nat) : (i0 n).length = n := by
  unfold i0 zeroRow
  simp
theorem i0_flat (n : Nat) : (i0 n).all Ex.flat = true := by
  refine List.all_eq_true.2 fun v hv => ?_
  unfold i0 zeroRow at hv
  simp only [Array.toList_map, List.mem_map, Array.mem_toList_iff, Array.mem_range] at hv
  obtain ⟨k, _, rfl⟩ := hv
  have : k % (#[b_ false] : Array Value).size = 0 := Nat.mod_one k
  rw [this]; rfl
theorem set_drop : ∀ {B : List Value} {j : Nat} {v : Value}, j < B.length → (B.drop j).set 0 v = v :: B.drop (j + 1)
  | [], _, _, h => by simp at h
  | _ :: _, 0, _, _ => rfl
  | _ :: B, j + 1, _, h => set_drop (B := B) (j := j) (by simpa using h)
theorem set_mid {A : List Value} {B : List Value} {j n : Nat} {v : Value} (hA : A.length = j) (hB : B.length = n) (hj : j < n) : (A ++ B.drop j).set j v = A ++ [v] ++ B.drop (j + 1) := by
  rw [List.set_append_right _ _ (by omega), hA, Nat.sub_self, set_drop (by omega)]
  simp
theorem k0'_eq {J Y : Nat} (h1 : 1 ≤ Y) (h2 : Y ≤ 1024) (h3 : J < 1000000) : k0' (J : Int) (Y : Int) = ((J + 1 - Y : Nat) : Int) := by
  unfold k0' mx
  rw [wrapF_in (show -9223372036854775808 ≤ (J : Int) - Y by omega) (by omega), wrapF_in (by omega) (by omega)]
  by_cases h : 0 > (J : Int) - Y + 1
  · rw [if_pos h]; omega
  · rw [if_neg h]; omega
theorem run17 {bs : List Value} {n c Y : Nat} {x : Int} (h : okB bs n c) (h1 : 1 ≤ Y) (h2 : Y ≤ 1024) : runS (stQ bs n c x Y) (n + 1) (0, i0 n) = some (0, ((n : Int), perO bs x Y n)) := by
  have hl := h.2.2.1
  have hc := h.2.1
  have hlen : ∀ j, j ≤ n → (perO bs x Y j ++ (i0 n).drop j).length = n := by
    intro j hj
    rw [List.length_append, perO_len, List.length_drop, i0_len]; omega
  have key := run_all (step := stQ bs n c x Y) (st := fun j => (((j : Nat) : Int), perO bs x Y j ++ (i0 n).drop j)) (a := 0) n (fun j hj => ?_) ?_
  · have e1 : perO bs x Y n ++ (i0 n).drop n = perO bs x Y n := by rw [List.drop_of_length_le (by rw [i0_len]; exact Nat.le_refl n), List.append_nil]
    rw [e1] at key
    exact key
  · have hk := k0'_eq (J := j) h1 h2 (by omega)
    have ho : oQ (Y : Int) ((j : Nat) : Int) = j + 1 - Y := by
      unfold oQ
      rw [hk, show ((j + 1 - Y : Nat) : Int).toNat = j + 1 - Y from rfl]; omega
    have hq : lQ (Y : Int) ((j : Nat) : Int) = j + 1 - (j + 1 - Y) := by
      unfold lQ
      rw [hk, wsucc (by omega)]; rfl
    have hin : inQ c (Y : Int) ((j : Nat) : Int) = true := by
      unfold inQ
      rw [hk, wsucc (by omega), leF_eq, leF_eq, leF_eq, decide_eq_true (by omega), decide_eq_true (by omega), decide_eq_true (by omega)]; rfl
    have hF : okF bs (j + 1 - Y) (j + 1 - (j + 1 - Y)) (c - (j + 1 - Y)) := by
      refine ⟨h.1, by omega, by omega, fun k hk => ?_⟩
      have := h.2.2.2 (j + 1 - Y + k) (by omega)
      rwa [show 0 + (j + 1 - Y + k) * 1 = j + 1 - Y + k * 1 from by omega] at this
    have hN : ∀ b, (nQ n ((j : Nat) : Int) (perO bs x Y j ++ (i0 n).drop j) b).sel = some (.inl (((j + 1 : Nat) : Int), perO bs x Y j ++ [b_ b] ++ (i0 n).drop (j + 1))) := by
      intro b
      have hj' : 0 + ((j : Nat) : Int).toNat * 1 = j := by rw [show ((j : Nat) : Int).toNat = j from rfl]; omega
      unfold nQ
      rw [askS_sel (bnd_t hj (Nat.le_refl n)), hj', askS_sel (by rw [hlen j (by omega), decide_eq_true hj]; rfl), wsucc (by omega), set_mid (perO_len bs x Y j) (i0_len n) hj]; rfl
    have hT : perO bs x Y (j + 1) = perO bs x Y j ++ [b_ (leF x (pC bs (j : Int) Y))] := rfl
    have hpc : ((cntB bs (j + 1 - Y) (j + 1 - (j + 1 - Y)) : Nat) : Int) = pC bs (j : Int) Y := rfl
    unfold stQ
    dsimp only
    rw [br_t (by rw [ltF_eq]; simpa using hj), askS_sel hin, hk, ho, hq, show ((j + 1 - Y : Nat) : Int).toNat = j + 1 - Y from rfl, askS_sel (tru_iff.2 hF), hpc, hT]
    cases leF x (pC bs (j : Int) Y) with
    | true => rw [br_t rfl, hN]
    | false => rw [br_f rfl, hN]
  · unfold stQ
    dsimp only
    rw [br_f (by rw [ltF_eq]; simp)]; rfl
def pE (n : Nat) (x y : Int) : Int := fst3 (mnE n 1024) (rgE y 1 1024) (rgE x 1 y)
section
variable (bs : List Value) (t s n c : Nat) (ex : Bool) (x y : Int)
noncomputable def nt17 (r : Nat × Int × List Value) : NT := .br (tru (bs.all Ex.flat = true)) (.br (tru (okI [i (mnE n 1024), i (rgE y 1 1024), i (rgE x 1 y)] 3 3)) (.br (!eqF (pE n x y) 0) (.leaf 1000000 (.old (tp [.slice none 0 0, i (pE n x y)])))
  (.br (leF 0 n && (leF n n && leF n 1048576)) (.br (Nat.beq r.1 0) (.leaf 3 (.tup n n r.2.2 4 1 true (i 0))) .fail) .fail)) .fail) .fail
theorem v17 (r : Nat × Int × List Value) : (o17 bs t s n c ex x y r).news = nt17 bs n x y r := by kernel_rfl
theorem x17 (r : Nat × Int × List Value) : o17 bs t s n c ex x y r = (o17 bs t s n c ex x y r).fix := by kernel_rfl
end
theorem n17 {bs : List Value} {t s n c : Nat} {ex : Bool} {x y : Int} {r : Nat × Int × List Value} {b : Nat} {q : NRes} (hL : LSound Tryz.prog 2 (KQ bs t s n c ex x y r).L)
    (h : (nt17 bs n x y r).sel = some (b, q)) (hb : 2 ≤ b) (hfl : q.Fl) : q.Ok Tryz.prog 17 [sl 1 0 n c, i x, i y] deads [.cells bs t s ex] 2 :=
  news_ok (C := KQ bs t s n c ex x y r) (n := 60) ts8 hL (x17 bs t s n c ex x y r) ((congrArg NT.sel (v17 bs t s n c ex x y r)).trans h) hb hfl
def sp17 : NSpec := fun al css => match al, css with
  | [.slice (some ⟨1, 0, none⟩) n c, .int .i64 x, .int .i64 y], [bs] => some (okB bs n c ∧ pE n x y = 0, .tup n n (perO bs x y n) 4 1 true (i 0))
  | _, _ => none
def sp17e : NSpec := fun al css => match al, css with
  | [.slice (some ⟨1, 0, none⟩) n _, .int .i64 x, .int .i64 y], [bs] => some (bs.all Ex.flat = true ∧ pE n x y ≠ 0, .old (tp [.slice none 0 0, i (pE n x y)]))
  | _, _ => none
theorem pE_y {n : Nat} {x y : Int} (h : pE n x y = 0) : 1 ≤ y ∧ y ≤ 1024 := by
  unfold pE at h
  rw [fst3_eq] at h
  apply Classical.byContradiction
  intro hc
  have hr : rgE y 1 1024 ≠ 0 := by
    unfold rgE
    rw [if_neg hc]; decide
  by_cases h1 : mnE n 1024 ≠ 0
  · rw [if_pos h1] at h; exact h1 h
  · rw [if_neg h1, if_pos hr] at h; exact hr h
theorem c17 : ∀ al css os p v, sp17 al css = some (p, v) → p → Blks css os → (∀ cs ∈ css, cs.all Ex.flat = true) ∧ v.Ok Tryz.prog 17 al deads os (gl + css.length) := by
  intro al css os p v hs hp hb
  unfold sp17 at hs
  split at hs
  case h_2 => cases hs
  rename_i n c x y bs
  cases hs
  obtain ⟨t, s, ex, rfl⟩ := blks1 hb
  obtain ⟨p1, p2⟩ := hp
  have hy := pE_y p2
  obtain ⟨Y, rfl⟩ : ∃ Y : Nat, y = Y := ⟨y.toNat, by omega⟩
  have hl := p1.2.2.1
  refine ⟨by simpa using p1.1, ?_⟩
  have hL := (LQ (t := t) (s := s) (ex := ex) (x := x) (y := (Y : Int)) p1.1).table (id := 6) (s0 := (0, i0 n)) .none (by decide) (i0_flat n) (run17 p1 (by omega) (by omega)) (by kernel_rfl) [0]
  refine n17 (r := (0, ((n : Int), perO bs x Y n))) hL (b := 3) ?_ (by decide) ⟨perO_flat bs x Y n, rfl⟩
  unfold nt17
  simp only [NT.sel]
  rw [tru_iff.2 p1.1, tru_iff.2 (okI3 _ _ _), p2, leF_eq, leF_eq, leF_eq, decide_eq_true (by omega), decide_eq_true (by omega), decide_eq_true (by omega)]; rfl
theorem c17e : ∀ al css os p v, sp17e al css = some (p, v) → p → Blks css os → (∀ cs ∈ css, cs.all Ex.flat = true) ∧ v.Ok Tryz.prog 17 al deads os (gl + css.length) := by
  intro al css os p v hs hp hb
  unfold sp17e at hs
  split at hs
  case h_2 => cases hs
  rename_i n c x y bs
  cases hs
  obtain ⟨t, s, ex, rfl⟩ := blks1 hb
  obtain ⟨p1, p2⟩ := hp
  refine ⟨by simpa using p1, ?_⟩
  refine n17 (t := t) (s := s) (c := c) (ex := ex) (r := (1, (0, i0 n))) (LSound.loop .none (by kernel_rfl) (hpQ_flat p1 (i0_flat n)) fun q hq => by cases hq) (b := 1000000) ?_ (by decide) rfl
  unfold nt17
  simp only [NT.sel]
  rw [tru_iff.2 p1, tru_iff.2 (okI3 _ _ _), eqF_d, decide_eq_false p2]; rfl
noncomputable def T9 : Tb := ext (ext T8 17 (newE sp17 [] (heapL deads))) 1000017 (newE sp17e [] (heapL deads))
theorem ts9 {G : Nat} : TSound Tryz.prog G T9 := (ts8.new c17).new c17e
end Go.Proofs.YtdnogbdfiahcaaaGreat.Ways
namespace Go.Proofs.YtdnogbdfiahcaaaGreat.Ways
open Go Go.Ex Go.RowKit
/-! ### the program's Latch over a list that is not empty -/
theorem mid_r {A B : List Value} {j n : Nat} (hA : A.length = j) (_hB : B.length = n) (_hj : j < n) : (A ++ B.drop j)[0 + j * 1]? = B[0 + j * 1]? := by
  rw [show 0 + j * 1 = j from by omega, List.getElem?_append_right (by omega), hA, Nat.sub_self, List.getElem?_drop, Nat.add_zero]
theorem mid_l {bs ss X : List Value} {j : Nat} : (latO bs ss (j + 1) ++ X)[0 + j * 1]? = some (b_ (latN bs ss (j + 1))) := by
  rw [show 0 + j * 1 = j from by omega, List.getElem?_append_left (by rw [latO_len]; omega)]
  show (latO bs ss j ++ [b_ (latN bs ss (j + 1))])[j]? = _
  rw [List.getElem?_append_right (by rw [latO_len]; omega), latO_len, Nat.sub_self]; rfl
theorem lat_start {bs ss : List Value} {n c : Nat} (h : okB bs n c) (hlen : bs.length = n) (hn : 0 < n) : latO bs ss 1 ++ bs.drop 1 = bs := by
  cases bs with
  | nil => simp at hlen; omega
  | cons v r =>
    have h0 := cellAt_eq (h.2.2.2 0 hn)
    show [b_ (bO (v :: r) 0 || (false && !bO ss 0))] ++ r = v :: r
    have hv : v = b_ (bO (v :: r) 0) := Option.some.inj h0
    rw [Bool.false_and, Bool.or_false]
    exact congrArg (· :: r) hv.symm
theorem run19 {bs ss : List Value} {k c c2 : Nat} (h : okB bs (k + 1) c) (h2 : okB ss (k + 1) c2) (hlen : bs.length = k + 1) : runS (st19 ss (k + 1) (k + 1) c2) (k + 1) (1, bs) = some (0, (((k + 1 : Nat) : Int), latO bs ss (k + 1))) := by
  have hl := h.2.2.1
  have key := run_all (step := st19 ss (k + 1) (k + 1) c2) (st := fun j => (((j + 1 : Nat) : Int), latO bs ss (j + 1) ++ bs.drop (j + 1))) (a := 0) k (fun j hj => ?_) ?_
  · have e1 : latO bs ss (k + 1) ++ bs.drop (k + 1) = latO bs ss (k + 1) := by rw [List.drop_of_length_le (by omega), List.append_nil]
    have e2 : latO bs ss (0 + 1) ++ bs.drop (0 + 1) = bs := lat_start h hlen (by omega)
    rw [e1, e2] at key
    exact key
  · have hlenj : (latO bs ss (j + 1) ++ bs.drop (j + 1)).length = k + 1 := by rw [List.length_append, latO_len, List.length_drop]; omega
    have hr := mid_r (A := latO bs ss (j + 1)) (B := bs) (latO_len bs ss (j + 1)) hlen (show j + 1 < k + 1 by omega)
    have hcb : cb (latO bs ss (j + 1) ++ bs.drop (j + 1)) ((j + 1 : Nat) : Int) = true := by
      show isCellB .b (latO bs ss (j + 1) ++ bs.drop (j + 1))[0 + (j + 1) * 1]? = true
      rw [hr]
      exact h.2.2.2 (j + 1) (by omega)
    have hbo : bO (latO bs ss (j + 1) ++ bs.drop (j + 1)) (j + 1) = bO bs (j + 1) := by
      unfold bO
      rw [hr]
    have hw : wrapF .i64 (((j + 1 : Nat) : Int) - 1) = (j : Int) := by rw [wrapF_in (by omega) (by omega)]; omega
    have hcl : cb (latO bs ss (j + 1) ++ bs.drop (j + 1)) (j : Int) = true := by
      show isCellB .b (latO bs ss (j + 1) ++ bs.drop (j + 1))[0 + j * 1]? = true
      rw [mid_l]; rfl
    have hbl : bO (latO bs ss (j + 1) ++ bs.drop (j + 1)) j = latN bs ss (j + 1) := by
      unfold bO
      rw [mid_l]; rfl
    have hN : ∀ b, (stx (k + 1) ((j + 1 : Nat) : Int) (latO bs ss (j + 1) ++ bs.drop (j + 1)) b).sel = some (.inl (((j + 1 + 1 : Nat) : Int), latO bs ss (j + 1) ++ [b_ b] ++ bs.drop (j + 1 + 1))) := by
      intro b
      have hj' : 0 + ((j + 1 : Nat) : Int).toNat * 1 = j + 1 := by rw [show ((j + 1 : Nat) : Int).toNat = j + 1 from rfl]; omega
      unfold stx
      rw [askS_sel (bnd_t (by omega) (Nat.le_refl _)), hj', askS_sel (by rw [hlenj, decide_eq_true (by omega)]; rfl), wsucc (by omega), set_mid (latO_len bs ss _) hlen (by omega)]; rfl
    have hT : latO bs ss (j + 1 + 1) = latO bs ss (j + 1) ++ [b_ (bO bs (j + 1) || (latN bs ss (j + 1) && !bO ss (j + 1)))] := rfl
    unfold st19
    dsimp only
    rw [br_t (by rw [ltF_eq]; exact decide_eq_true (by omega)), askS_sel (bnd_t (by omega) (Nat.le_refl _)), askS_sel hcb, show ((j + 1 : Nat) : Int).toNat = j + 1 from rfl, hbo, hw, show ((j : Nat) : Int).toNat = j from rfl, hbl, hT]
    cases hb : bO bs (j + 1) with
    | true => rw [br_t rfl, hN]; rfl
    | false =>
      rw [br_f rfl, askS_sel (bnd_t (by omega) (Nat.le_refl _)), askS_sel hcl]
      cases hn : latN bs ss (j + 1) with
      | true =>
        rw [br_t rfl, askS_sel (bnd_t (show j + 1 < k + 1 by omega) h2.2.1), askS_sel (cb_t h2 (by omega))]
        cases ho : bO ss (j + 1) with
        | true => rw [br_t rfl, hN]; rfl
        | false => rw [br_f rfl, hN]; rfl
      | false => rw [br_f rfl, hN]; rfl
  · unfold st19
    dsimp only
    rw [br_f (by rw [ltF_eq]; simp)]; rfl
def lE (n m : Nat) : Int := fst3 (mnE n 1024) (mnE m 1024) (shB n m)
section
variable (bs ss : List Value) (t s t2 s2 n c m c2 : Nat) (ex e2 : Bool)
noncomputable def nt19 (r : Nat × Int × List Value) : NT := .br (tru (bs.all Ex.flat = true)) (.br (tru (ss.all Ex.flat = true)) (.br (tru (okI [i (mnE n 1024), i (mnE m 1024), i (shB n m)] 3 3)) (.br (!eqF (lE n m) 0) (.leaf 1000000 (.old (tp [.slice none 0 0, i (lE n m)])))
  (.br (!decide (n = 0) && (decide (n ≤ c + 1) && (decide (n ≤ 1048576) && decide (0 + n * 1 ≤ bs.length)))) (.br (Nat.beq r.1 0) (.leaf 5 (.tup n n r.2.2 4 1 false (i 0))) .fail) .fail)) .fail) .fail) .fail
theorem v19 (r : Nat × Int × List Value) : (o19 bs ss t s t2 s2 n (c + 1) m c2 ex e2 r).news = nt19 bs ss n c m r := by kernel_rfl
theorem x19 (r : Nat × Int × List Value) : o19 bs ss t s t2 s2 n (c + 1) m c2 ex e2 r = (o19 bs ss t s t2 s2 n (c + 1) m c2 ex e2 r).fix := by kernel_rfl
end
theorem n19 {bs ss : List Value} {t s t2 s2 n c m c2 : Nat} {ex e2 : Bool} {r : Nat × Int × List Value} {b : Nat} {q : NRes} (hL : LSound Tryz.prog 3 (K19 bs ss t s t2 s2 n m c2 ex e2 r).L)
    (h : (nt19 bs ss n c m r).sel = some (b, q)) (hb : 3 ≤ b) (hfl : q.Fl) : q.Ok Tryz.prog 19 [sl 1 0 n (c + 1), sl 2 0 m c2] deads [.cells bs t s ex, .cells ss t2 s2 e2] 3 :=
  news_ok (C := K19 bs ss t s t2 s2 n m c2 ex e2 r) (n := 60) ts7 hL (x19 bs ss t s t2 s2 n c m c2 ex e2 r) ((congrArg NT.sel (v19 bs ss t s t2 s2 n c m c2 ex e2 r)).trans h) hb hfl
theorem latch_ok {bs ss : List Value} {t s t2 s2 k c c2 : Nat} {ex e2 : Bool} (h : okB bs (k + 1) (c + 1)) (h2 : okB ss (k + 1) c2) (hlen : bs.length = k + 1) (he : lE (k + 1) (k + 1) = 0) :
    (NRes.tup (k + 1) (k + 1) (latO bs ss (k + 1)) 4 1 false (i 0)).Ok Tryz.prog 19 [sl 1 0 (k + 1) (c + 1), sl 2 0 (k + 1) c2] deads [.cells bs t s ex, .cells ss t2 s2 e2] 3 := by
  have hl := h.2.2.1
  have hc := h.2.1
  have ht : (bs.drop 0).take ((k + 1) * 1) = bs := by rw [List.drop_zero, Nat.mul_one, List.take_of_length_le (by omega)]
  have hr := run19 h h2 hlen
  rw [← ht] at hr
  have hL := (L19 (t := t) (s := s) (t2 := t2) (s2 := s2) (ex := ex) (e2 := e2) (n := k + 1) (m := k + 1) (c2 := c2) h.1 h2.1).table (id := 6) (s0 := (1, (bs.drop 0).take ((k + 1) * 1))) .none (by decide) (show Gd2 _ by rw [ht]; exact h.1) hr (by kernel_rfl) [0]
  rw [ht] at hr
  refine n19 (r := _) hL (b := 5) ?_ (by decide) ⟨latO_flat bs ss (k + 1), rfl⟩
  unfold nt19
  simp only [NT.sel]
  rw [tru_iff.2 h.1, tru_iff.2 h2.1, tru_iff.2 (okI3 _ _ _), he, decide_eq_false (show ¬ k + 1 = 0 by omega), decide_eq_true (show k + 1 ≤ c + 1 by omega), decide_eq_true (show k + 1 ≤ 1048576 by omega), decide_eq_true (show 0 + (k + 1) * 1 ≤ bs.length by omega), ht]; rfl
end Go.Proofs.YtdnogbdfiahcaaaGreat.Ways
namespace Go.Proofs.YtdnogbdfiahcaaaGreat.Ways
open Go Go.Ex Go.RowKit
/-! ### copies; the program's Latch as a contract -/
/-! bools -/
def okA (bs : List Value) (n c : Nat) : Prop := okB bs n c ∧ bs.length = n
section
variable (bs : List Value) (t s n c : Nat) (ex : Bool)
noncomputable def o16z : Out QRes := execO Tryz.prog 2 ⟨T9, no_, off_, noL⟩ 60 (.call 16 ⟨[sl 1 0 0 c]⟩ (heapL (deads ++ [.cells bs t s ex])))
theorem v16z : (o16z bs t s c ex).news = .leaf 2 (.sl 0 0 [] 4 1 true) := by kernel_rfl
theorem x16z : o16z bs t s c ex = (o16z bs t s c ex).fix := by kernel_rfl
noncomputable def o16 : Out QRes := execO Tryz.prog 2 ⟨T9, no_, on_ [(16, 5), (16, 200005)], noL⟩ 60 (.call 16 ⟨[sl 1 0 n c]⟩ (heapL (deads ++ [.cells bs t s ex])))
theorem v16 : (o16 bs t s n c ex).news = .br (!decide (n = 0) && (decide (n ≤ c) && (decide (n ≤ 1048576) && decide (0 + n * 1 ≤ bs.length)))) (.leaf 3 (.sl n n ((bs.drop 0).take (n * 1)) 4 1 false)) .fail := by kernel_rfl
theorem x16 : o16 bs t s n c ex = (o16 bs t s n c ex).fix := by kernel_rfl
end
def sp16 : XSpec := fun al os => match al, os with
  | [.slice (some ⟨1, 0, none⟩) n c], [.cells bs _ _ _] => some (okA bs n c, .sl n n bs 4 1 (Nat.beq n 0))
  | _, _ => none
theorem c16 : ∀ al os p v, sp16 al os = some (p, v) → p → (∀ o ∈ os.drop 0, FlatO o) ∧ v.OkX Tryz.prog 16 al deads os (gl + os.length) := by
  intro al os p v hs hp
  unfold sp16 at hs
  split at hs
  case h_2 => cases hs
  rename_i n c bs t s ex
  cases hs
  obtain ⟨p1, p2⟩ := hp
  have hl := p1.2.2.1
  refine ⟨fun o ho => ?_, ?_⟩
  · rw [List.drop_zero, List.mem_singleton] at ho
    subst ho
    exact fun x hx => List.all_eq_true.1 p1.1 x hx
  by_cases h0 : n = 0
  · subst h0
    have hb : bs = [] := List.eq_nil_of_length_eq_zero p2
    subst hb
    exact (news_ok (C := ⟨T9, no_, off_, noL⟩) (n := 60) ts9 .none (x16z [] t s c ex) (b := 2) (by rw [show execO Tryz.prog 2 ⟨T9, no_, off_, noL⟩ 60 (.call 16 ⟨[sl 1 0 0 c]⟩ (heapL (deads ++ [.cells [] t s ex]))) = o16z [] t s c ex from rfl, v16z]; rfl) (by decide) (show NRes.Fl (.sl 0 0 [] 4 1 true) from rfl)).x
  · have ht : (bs.drop 0).take (n * 1) = bs := by rw [List.drop_zero, Nat.mul_one, List.take_of_length_le (by omega)]
    have hn0 : Nat.beq n 0 = false := Bool.eq_false_iff.2 fun h => h0 (Nat.eq_of_beq_eq_true h)
    rw [hn0]
    refine (news_ok (C := ⟨T9, no_, on_ [(16, 5), (16, 200005)], noL⟩) (n := 60) ts9 .none (x16 bs t s n c ex) (b := 3) ?_ (by decide) (show NRes.Fl (.sl n n bs 4 1 false) from p1.1)).x
    rw [show execO Tryz.prog 2 ⟨T9, no_, on_ [(16, 5), (16, 200005)], noL⟩ 60 (.call 16 ⟨[sl 1 0 n c]⟩ (heapL (deads ++ [.cells bs t s ex]))) = o16 bs t s n c ex from rfl, v16, ht, decide_eq_false h0, decide_eq_true p1.2.1, decide_eq_true (by omega), decide_eq_true (by omega)]; rfl
/-! Latch -/
section
variable (ss : List Value) (t s t2 s2 c2 : Nat) (e2 : Bool)
noncomputable def o19z : Out QRes := execO Tryz.prog 3 ⟨T7, at_ [(19, 21)] .bool no_, off_, noL⟩ 60 (.call 19 ⟨[sl 1 0 0 0, sl 2 0 0 c2]⟩ (heapL (deads ++ [.cells [] t s true, .cells ss t2 s2 e2])))
theorem v19z : (o19z ss t s t2 s2 c2 e2).news = .br (tru (([] : List Value).all Ex.flat = true)) (.br (tru (ss.all Ex.flat = true)) (.br (tru (okI [i (mnE 0 1024), i (mnE 0 1024), i (shB 0 0)] 3 3)) (.br (!eqF (lE 0 0) 0) (.leaf 1000000 (.old (tp [.slice none 0 0, i (lE 0 0)]))) (.leaf 4 (.tup 0 0 [] 4 1 true (i 0)))) .fail) .fail) .fail := by kernel_rfl
theorem x19z : o19z ss t s t2 s2 c2 e2 = (o19z ss t s t2 s2 c2 e2).fix := by kernel_rfl
end
noncomputable def Ce : Cfg := ⟨T7, at_ [(19, 21)] .bool (at_ [(19, 23)] (.ints []) no_), off_, noL⟩
section
variable (bs ss : List Value) (t s t2 s2 n c m c2 : Nat) (ex e2 : Bool)
noncomputable def o19e : Out QRes := execO Tryz.prog 3 Ce 60 (.call 19 ⟨[sl 1 0 n c, sl 2 0 m c2]⟩ (heapL (deads ++ [.cells bs t s ex, .cells ss t2 s2 e2])))
theorem v19e : (o19e bs ss t s t2 s2 n c m c2 ex e2).news = .br (tru (bs.all Ex.flat = true)) (.br (tru (ss.all Ex.flat = true)) (.br (tru (okI [i (mnE n 1024), i (mnE m 1024), i (shB n m)] 3 3)) (.br (!eqF (lE n m) 0) (.leaf 1000000 (.old (tp [.slice none 0 0, i (lE n m)]))) .fail) .fail) .fail) .fail := by kernel_rfl
theorem x19e : o19e bs ss t s t2 s2 n c m c2 ex e2 = (o19e bs ss t s t2 s2 n c m c2 ex e2).fix := by kernel_rfl
end
def LatOK (bs ss : List Value) (n c m c2 : Nat) (ex : Bool) : Prop := okA bs n c ∧ okB ss m c2 ∧ lE n m = 0 ∧ (n = 0 → c = 0 ∧ ex = true)
def sp19 : XSpec := fun al os => match al, os with
  | [.slice (some ⟨1, 0, none⟩) n c, .slice (some ⟨2, 0, none⟩) m c2], [.cells bs _ _ ex, .cells ss _ _ _] => some (LatOK bs ss n c m c2 ex, .tup n n (latO bs ss n) 4 1 false (i 0))
  | _, _ => none
def sp19e : XSpec := fun al os => match al, os with
  | [.slice (some ⟨1, 0, none⟩) n _c, .slice (some ⟨2, 0, none⟩) m _c2], [.cells bs _ _ _, .cells ss _ _ _] => some (bs.all Ex.flat = true ∧ ss.all Ex.flat = true ∧ lE n m ≠ 0, .old (tp [.slice none 0 0, i (lE n m)]))
  | _, _ => none
theorem lE_eq {n m : Nat} (h : lE n m = 0) : n = m := by
  unfold lE at h
  rw [fst3_eq] at h
  apply Classical.byContradiction
  intro hc
  have h3 : shB n m = 2 := by unfold shB; rw [if_neg (by omega)]
  rw [h3] at h
  by_cases h1 : mnE n 1024 ≠ 0
  · rw [if_pos h1] at h; exact h1 h
  · rw [if_neg h1] at h
    by_cases h2 : mnE m 1024 ≠ 0
    · rw [if_pos h2] at h; exact h2 h
    · rw [if_neg h2] at h; cases h
theorem two_flat {bs ss : List Value} {t s t2 s2 : Nat} {ex e2 : Bool} (h : bs.all Ex.flat = true) (h2 : ss.all Ex.flat = true) : ∀ o ∈ ([CO.cells bs t s ex, CO.cells ss t2 s2 e2] : List CO).drop 0, FlatO o := by
  intro o ho
  rw [List.drop_zero] at ho
  simp only [List.mem_cons, List.not_mem_nil, or_false] at ho
  rcases ho with rfl | rfl
  · exact fun x hx => List.all_eq_true.1 h x hx
  · exact fun x hx => List.all_eq_true.1 h2 x hx
theorem c19 : ∀ al os p v, sp19 al os = some (p, v) → p → (∀ o ∈ os.drop 0, FlatO o) ∧ v.OkX Tryz.prog 19 al deads os (gl + os.length) := by
  intro al os p v hs hp
  unfold sp19 at hs
  split at hs
  case h_2 => cases hs
  rename_i n c m c2 bs t s ex ss t2 s2 e2
  cases hs
  obtain ⟨⟨p1, p2⟩, p3, p4, p5⟩ := hp
  refine ⟨two_flat p1.1 p3.1, ?_⟩
  have hm := lE_eq p4
  subst hm
  cases n with
  | zero =>
    obtain ⟨rfl, rfl⟩ := p5 rfl
    have hb : bs = [] := List.eq_nil_of_length_eq_zero p2
    subst hb
    have hk := (news_ok (C := ⟨T7, at_ [(19, 21)] .bool no_, off_, noL⟩) (n := 60) (r := .tup 0 0 [] 4 1 true (i 0)) ts7 .none (x19z ss t s t2 s2 c2 e2) (b := 4) (by
      rw [show execO Tryz.prog 3 ⟨T7, at_ [(19, 21)] .bool no_, off_, noL⟩ 60 (.call 19 ⟨[sl 1 0 0 0, sl 2 0 0 c2]⟩ (heapL (deads ++ [.cells [] t s true, .cells ss t2 s2 e2]))) = o19z ss t s t2 s2 c2 e2 from rfl, v19z]
      simp only [NT.sel]
      rw [tru_iff.2 (show ([] : List Value).all Ex.flat = true from rfl), tru_iff.2 p3.1, tru_iff.2 (okI3 _ _ _), p4]; rfl) (by decide) ⟨rfl, rfl⟩).x
    obtain ⟨h1, h2, b, H', ex', h3, _, h5, h6⟩ := hk
    exact ⟨rfl, rfl, b, H', ex', h3, (fun h => by cases h), h5, h6⟩
  | succ k =>
    cases c with
    | zero => exact absurd p1.2.1 (by omega)
    | succ c => exact (latch_ok p1 p3 p2 p4).x
theorem c19e : ∀ al os p v, sp19e al os = some (p, v) → p → (∀ o ∈ os.drop 0, FlatO o) ∧ v.OkX Tryz.prog 19 al deads os (gl + os.length) := by
  intro al os p v hs hp
  unfold sp19e at hs
  split at hs
  case h_2 => cases hs
  rename_i n c m c2 bs t s ex ss t2 s2 e2
  cases hs
  obtain ⟨p1, p2, p3⟩ := hp
  refine ⟨two_flat p1 p2, ?_⟩
  refine (news_ok (C := Ce) (n := 60) (b := 1000000) ts7 .none (x19e bs ss t s t2 s2 n c m c2 ex e2) ?_ (by decide) (show NRes.Fl (.old (tp [.slice none 0 0, i (lE n m)])) from rfl)).x
  rw [show execO Tryz.prog 3 Ce 60 (.call 19 ⟨[sl 1 0 n c, sl 2 0 m c2]⟩ (heapL (deads ++ [.cells bs t s ex, .cells ss t2 s2 e2]))) = o19e bs ss t s t2 s2 n c m c2 ex e2 from rfl, v19e]
  simp only [NT.sel]
  rw [tru_iff.2 p1, tru_iff.2 p2, tru_iff.2 (okI3 _ _ _), eqF_d, decide_eq_false p3]; rfl
noncomputable def TL (g : Bool) : Tb := cond g (ext (ext T9 16 (xE 0 rd0 sp16 [] (heapL deads))) 19 (xE 0 rd0 sp19 [] (heapL deads))) (ext (ext T9 16 (xE 0 rd0 sp16 [] (heapL deads))) 19 (xE 0 rd0 sp19e [] (heapL deads)))
theorem tsL {G : Nat} : ∀ g, TSound Tryz.prog G (TL g)
  | true => (ts9.x c16).x c19
  | false => (ts9.x c16).x c19e
end Go.Proofs.YtdnogbdfiahcaaaGreat.Ways
