import Derived.Test.YtdnogbdfiahcaaaGreatVr4
import Derived.Test.YtdnogbdfiahcaaaGreatEngMk
namespace Go.Proofs.YtdnogbdfiahcaaaGreat.Ways
open Go Go.Ex Go.RowKit
/-! ### lists of truth values; the reference's Latch: the first contract with two ways and a new list -/
def okB (cs : List Value) (n c : Nat) : Prop := cs.all Ex.flat = true ∧ n ≤ c ∧ n ≤ 1000000 ∧ ∀ j, j < n → isCellB .b cs[0 + j * 1]? = true
def bO (cs : List Value) (j : Nat) : Bool := boolO cs[0 + j * 1]?
def full (l : Nat) (out : List Value) : Bool := decide (l = l) && (decide (out.length = l * 1) && decide (l + 1 ≤ 1048576))
noncomputable def sp7 : Nat → Nat → Split := at_ [(25, 11), (25, 17), (25, 19), (25, 24)] .bool no_
def sy7 : Nat → Nat → Bool := on_ [(25, 16), (25, 17), (25, 23), (25, 24), (25, 31), (25, 300031)]
def sy7z : Nat → Nat → Bool := on_ [(25, 16), (25, 17), (25, 23), (25, 24)]
noncomputable def B25 : Code := bodyL Tryz.f25 4
/-- no entry yet; some entries: the index, the last value, how many, which -/
inductive LS where
  | z
  | m (j : Int) (now : Bool) (l : Nat) (out : List Value)
noncomputable def C25 : LS → Cfg
  | .z => ⟨T4, sp7, sy7z, noL⟩
  | .m _ _ _ _ => ⟨T4, sp7, sy7, noL⟩
section
variable (bs ss : List Value) (t s t2 s2 n c m c2 : Nat) (ex e2 : Bool)
def hpL (out : List Value) : List (CO × Bool) := [(.dead, false), (.cells bs t s ex, true), (.cells ss t2 s2 e2, true), (.cells out 4 1 false, true)]
def S25 : Shape LS := ⟨33, fun q => match q with
  | .z => ⟨[(0, sl 1 0 n c), (1, sl 2 0 m c2), (5, .slice none 0 0), (6, b_ false), (7, i 0)], hpR bs ss t s t2 s2 ex e2⟩
  | .m j now l out => ⟨[(0, sl 1 0 n c), (1, sl 2 0 m c2), (5, sl 3 0 l l), (6, b_ now), (7, i j)], hpL bs ss t s t2 s2 ex e2 out⟩,
  fun _ q => match q with
  | .z => (.exit 0, ⟨[(5, .slice none 0 0)], hpR bs ss t s t2 s2 ex e2⟩)
  | .m _ _ l out => (.exit 0, ⟨[(5, sl 3 0 l l)], hpL bs ss t s t2 s2 ex e2 out⟩)⟩
def cb (cs : List Value) (j : Int) : Bool := isCellB .b cs[0 + j.toNat * 1]?
def nxz (x : Bool) : SS LS := .next 5 [0, 1, 2, 4] (.m 1 x 1 [b_ x])
def nxm (j : Int) (l : Nat) (out : List Value) (x : Bool) : SS LS := askS (full l out) (.next 6 [0, 1, 2, 5] (.m (wrapF .i64 (j + 1)) x (l + 1) (out ++ [b_ x])))
def st25 : LS → SS LS
  | .z => .br (ltF 0 n) (askS (bnd_ 0 n c) <| askS (cb bs 0) <| .br (bO bs 0) (nxz true) (.br false (askS (bnd_ 0 m c2) <| askS (cb ss 0) <| .br (bO ss 0) (nxz (!true)) (nxz (!false))) (nxz false))) (.done 3 [0, 1, 2] 0)
  | .m j now l out => .br (ltF j n) (askS (bnd_ j n c) <| askS (cb bs j) <| .br (bO bs j.toNat) (nxm j l out true) (.br now (askS (bnd_ j m c2) <| askS (cb ss j) <| .br (bO ss j.toNat) (nxm j l out (!true)) (nxm j l out (!false))) (nxm j l out false))) (.done 4 [0, 1, 2, 3] 0)
noncomputable def K25 (r : Nat × LS) : Cfg := ⟨T4, sp7, sy7, loopE noL 25 4 33 3 B25 ((S25 bs ss t s t2 s2 n c m c2 ex e2).st .z).live ((S25 bs ss t s t2 s2 n c m c2 ex e2).st .z).hp (finO (S25 bs ss t s t2 s2 n c m c2 ex e2) r [0])⟩
end
def Gd : LS → Prop
  | .z => True
  | .m _ _ _ out => out.all Ex.flat = true
section
variable {bs ss : List Value} {t s t2 s2 n c m c2 : Nat} {ex e2 : Bool}
theorem hpL_flat {out : List Value} (h : bs.all Ex.flat = true) (h2 : ss.all Ex.flat = true) (h3 : out.all Ex.flat = true) : ∀ o, (o, true) ∈ hpL bs ss t s t2 s2 ex e2 out → FlatO o := by
  intro o ho
  simp [hpL] at ho
  rcases ho with rfl | rfl | rfl
  · exact fun x hx => List.all_eq_true.1 h x hx
  · exact fun x hx => List.all_eq_true.1 h2 x hx
  · exact fun x hx => List.all_eq_true.1 h3 x hx
theorem nxz_sel {x : Bool} {r : LS ⊕ Nat} (h : (nxz x).sel = some r) : ∃ x, r = .inl (.m 1 x 1 [b_ x]) := ⟨x, by cases h; rfl⟩
theorem nxm_sel {j : Int} {l : Nat} {out : List Value} {x : Bool} {r : LS ⊕ Nat} (h : (nxm j l out x).sel = some r) : ∃ x, r = .inl (.m (wrapF .i64 (j + 1)) x (l + 1) (out ++ [b_ x])) := by
  unfold nxm askS at h
  have h' : cond (full l out) (some _) none = some r := h
  cases hf : full l out with
  | false => rw [hf] at h'; cases h'
  | true => rw [hf] at h'; cases h'; exact ⟨x, rfl⟩
theorem br_or {b : Bool} {t e : SS LS} {r : LS ⊕ Nat} (h : (SS.br b t e).sel = some r) : t.sel = some r ∨ e.sel = some r := by
  have h' : cond b t.sel e.sel = some r := h
  cases b with
  | true => exact .inl h'
  | false => exact .inr h'
theorem ask_or {b : Bool} {t : SS LS} {r : LS ⊕ Nat} (h : (askS b t).sel = some r) : t.sel = some r := by
  rcases br_or h with h | h
  · exact h
  · cases h
theorem good25 : ∀ q q', Gd q → (st25 bs ss n c m c2 q).sel = some (.inl q') → Gd q' := by
  intro q q' hg h
  cases q with
  | z =>
    have hz : ∀ {x : Bool}, (nxz x).sel = some (.inl q') → Gd q' := fun h => by
      obtain ⟨x, hx⟩ := nxz_sel h
      cases hx; rfl
    rcases br_or h with h | h
    · rcases br_or (ask_or (ask_or h)) with h | h
      · exact hz h
      · rcases br_or h with h | h
        · rcases br_or (ask_or (ask_or h)) with h | h
          · exact hz h
          · exact hz h
        · exact hz h
    · cases h
  | m j now l out =>
    have hz : ∀ {x : Bool}, (nxm j l out x).sel = some (.inl q') → Gd q' := fun h => by
      obtain ⟨x, hx⟩ := nxm_sel h
      cases hx
      show (out ++ [b_ x]).all Ex.flat = true
      have hg' : out.all Ex.flat = true := hg
      rw [List.all_append, hg']; rfl
    rcases br_or h with h | h
    · rcases br_or (ask_or (ask_or h)) with h | h
      · exact hz h
      · rcases br_or h with h | h
        · rcases br_or (ask_or (ask_or h)) with h | h
          · exact hz h
          · exact hz h
        · exact hz h
    · cases h
theorem L25 (h : bs.all Ex.flat = true) (h2 : ss.all Ex.flat = true) : Loop1 Tryz.prog 3 25 B25 (S25 bs ss t s t2 s2 n c m c2 ex e2) 3 (st25 bs ss n c m c2) Gd :=
  .mk' (C := C25) (n := 40) (fun q _ => by cases q <;> exact ts4) (fun q _ => by cases q <;> exact .none) (fun q ro _ => by cases q <;> kernel_rfl) (fun q ro _ => by cases q <;> kernel_rfl) (fun q => by cases q <;> kernel_rfl) good25
    (fun q hq => by
      cases q with
      | z => exact hpR_flat h h2
      | m j now l out => exact hpL_flat h h2 hq)
    (fun q j hq _ => by
      cases q with
      | z => exact ⟨hpR_flat h h2, fun h => by cases h⟩
      | m j now l out => exact ⟨hpL_flat h h2 hq, fun h => by cases h⟩)
end
end Go.Proofs.YtdnogbdfiahcaaaGreat.Ways
namespace Go.Proofs.YtdnogbdfiahcaaaGreat.Ways
open Go Go.Ex Go.RowKit
/-- a latch: on until it is put off -/
def latN (bs ss : List Value) : Nat → Bool
  | 0 => false
  | j + 1 => bO bs j || (latN bs ss j && !bO ss j)
def latO (bs ss : List Value) : Nat → List Value
  | 0 => []
  | j + 1 => latO bs ss j ++ [b_ (latN bs ss (j + 1))]
theorem latO_len (bs ss : List Value) : ∀ j, (latO bs ss j).length = j
  | 0 => rfl
  | j + 1 => by
    unfold latO
    rw [List.length_append, latO_len bs ss j]; rfl
theorem latO_flat (bs ss : List Value) : ∀ j, (latO bs ss j).all Ex.flat = true
  | 0 => rfl
  | j + 1 => by
    unfold latO
    rw [List.all_append, latO_flat bs ss j]; rfl
def lsT (bs ss : List Value) : Nat → LS
  | 0 => .z
  | j + 1 => .m ((j + 1 : Nat) : Int) (latN bs ss (j + 1)) (j + 1) (latO bs ss (j + 1))
theorem full_t {l : Nat} {out : List Value} (h : out.length = l) (hl : l < 1000000) : full l out = true := by
  unfold full
  rw [decide_eq_true rfl, decide_eq_true (by omega), decide_eq_true (by omega)]; rfl
theorem cb_t {cs : List Value} {n c j : Nat} (h : okB cs n c) (hj : j < n) : cb cs (j : Int) = true := h.2.2.2 j hj
theorem run25 {bs ss : List Value} {n c m c2 : Nat} (h : okB bs n c) (h2 : okB ss m c2) (hnm : n = m) : runS (st25 bs ss n c m c2) (n + 1) .z = some (0, lsT bs ss n) := by
  subst hnm
  have hc := h.2.1
  have hc2 := h2.2.1
  have hl := h.2.2.1
  refine run_all (st := lsT bs ss) n (fun j hj => ?_) ?_
  · have hlat : lsT bs ss (j + 1) = .m ((j + 1 : Nat) : Int) (bO bs j || (latN bs ss j && !bO ss j)) (j + 1) (latO bs ss j ++ [b_ (bO bs j || (latN bs ss j && !bO ss j))]) := rfl
    rw [hlat]
    cases j with
    | zero =>
      show (st25 bs ss n c n c2 .z).sel = _
      unfold st25
      rw [br_t (by rw [ltF_eq]; simpa using hj), askS_sel (show bnd_ 0 n c = true from bnd_t (j := 0) hj hc), askS_sel (show cb bs 0 = true from cb_t (j := 0) h hj)]
      cases hb : bO bs 0 with
      | true => rw [br_t rfl]; rfl
      | false => rw [br_f rfl, br_f rfl]; rfl
    | succ j =>
      show (st25 bs ss n c n c2 (.m ((j + 1 : Nat) : Int) (latN bs ss (j + 1)) (j + 1) (latO bs ss (j + 1)))).sel = _
      have hfull : full (j + 1) (latO bs ss (j + 1)) = true := full_t (latO_len bs ss _) (by omega)
      have hN : ∀ x, (nxm ((j + 1 : Nat) : Int) (j + 1) (latO bs ss (j + 1)) x).sel = some (.inl (.m ((j + 1 + 1 : Nat) : Int) x (j + 1 + 1) (latO bs ss (j + 1) ++ [b_ x]))) := by
        intro x
        unfold nxm
        rw [askS_sel hfull, wsucc (by omega)]; rfl
      unfold st25
      dsimp only
      rw [br_t (by rw [ltF_eq]; exact decide_eq_true (by omega)), askS_sel (bnd_t hj hc), askS_sel (cb_t h hj), show ((j + 1 : Nat) : Int).toNat = j + 1 from rfl]
      cases hb : bO bs (j + 1) with
      | true => rw [br_t rfl, hN]; rfl
      | false =>
        rw [br_f rfl]
        cases hn : latN bs ss (j + 1) with
        | true =>
          rw [br_t rfl, askS_sel (bnd_t hj hc2), askS_sel (cb_t h2 hj)]
          cases ho : bO ss (j + 1) with
          | true => rw [br_t rfl, hN]; rfl
          | false => rw [br_f rfl, hN]; rfl
        | false => rw [br_f rfl, hN]; rfl
  · cases n with
    | zero => rfl
    | succ n =>
      show (st25 bs ss (n + 1) c (n + 1) c2 (.m ((n + 1 : Nat) : Int) _ _ _)).sel = _
      unfold st25
      dsimp only
      rw [br_f (by rw [ltF_eq]; simp)]; rfl
section
variable (bs ss : List Value) (t s t2 s2 n c m c2 : Nat) (ex e2 : Bool)
noncomputable def o25 (r : Nat × LS) : Out QRes := execO Tryz.prog 3 (K25 bs ss t s t2 s2 n c m c2 ex e2 r) 60 (.call 25 ⟨[sl 1 0 n c, sl 2 0 m c2]⟩ (heapL (deads ++ [.cells bs t s ex, .cells ss t2 s2 e2])))
theorem v25z : (o25 bs ss t s t2 s2 n c m c2 ex e2 (0, .z)).news = .br true (.leaf 1000000 (.old (.slice none 0 0))) .fail := by kernel_rfl
theorem x25z : o25 bs ss t s t2 s2 n c m c2 ex e2 (0, .z) = (o25 bs ss t s t2 s2 n c m c2 ex e2 (0, .z)).fix := by kernel_rfl
variable (j : Int) (now : Bool) (l : Nat) (out : List Value)
theorem v25m : (o25 bs ss t s t2 s2 n c m c2 ex e2 (0, .m j now l out)).news = .br true (.leaf 3 (.sl l l out 4 1 false)) .fail := by kernel_rfl
theorem x25m : o25 bs ss t s t2 s2 n c m c2 ex e2 (0, .m j now l out) = (o25 bs ss t s t2 s2 n c m c2 ex e2 (0, .m j now l out)).fix := by kernel_rfl
end
theorem n25 {bs ss : List Value} {t s t2 s2 n c m c2 : Nat} {ex e2 : Bool} {r : Nat × LS} {b : Nat} {q : NRes} (hL : LSound Tryz.prog 3 (K25 bs ss t s t2 s2 n c m c2 ex e2 r).L) (hf : o25 bs ss t s t2 s2 n c m c2 ex e2 r = (o25 bs ss t s t2 s2 n c m c2 ex e2 r).fix)
    (h : (o25 bs ss t s t2 s2 n c m c2 ex e2 r).news.sel = some (b, q)) (hb : 3 ≤ b) (hfl : q.Fl) : q.Ok Tryz.prog 25 [sl 1 0 n c, sl 2 0 m c2] deads [.cells bs t s ex, .cells ss t2 s2 e2] 3 :=
  news_ok (C := K25 bs ss t s t2 s2 n c m c2 ex e2 r) (n := 60) ts4 hL hf h hb hfl
def sp25z : NSpec := fun al css => match al, css with
  | [.slice (some ⟨1, 0, none⟩) n c, .slice (some ⟨2, 0, none⟩) m c2], [bs, ss] => some (okB bs n c ∧ okB ss m c2 ∧ n = m ∧ n = 0, .old (.slice none 0 0))
  | _, _ => none
def sp25m : NSpec := fun al css => match al, css with
  | [.slice (some ⟨1, 0, none⟩) n c, .slice (some ⟨2, 0, none⟩) m c2], [bs, ss] => some (okB bs n c ∧ okB ss m c2 ∧ n = m ∧ n ≠ 0, .sl n n (latO bs ss n) 4 1 false)
  | _, _ => none
theorem c25z : ∀ al css os p v, sp25z al css = some (p, v) → p → Blks css os → (∀ cs ∈ css, cs.all Ex.flat = true) ∧ v.Ok Tryz.prog 25 al deads os (gl + css.length) := by
  intro al css os p v hs hp hb
  unfold sp25z at hs
  split at hs
  case h_2 => cases hs
  rename_i n c m c2 bs ss
  cases hs
  obtain ⟨t, s, ex, t2, s2, e2, rfl⟩ := blks2 hb
  obtain ⟨p1, p2, p3, p4⟩ := hp
  refine ⟨fun x hx => ?_, ?_⟩
  · simp only [List.mem_cons, List.not_mem_nil, or_false] at hx
    rcases hx with rfl | rfl
    · exact p1.1
    · exact p2.1
  have hr := run25 p1 p2 p3
  rw [p4] at hr
  have hL := (L25 (t := t) (s := s) (t2 := t2) (s2 := s2) (ex := ex) (e2 := e2) (n := 0) (c := c) (m := m) (c2 := c2) p1.1 p2.1).table (id := 4) (s0 := .z) .none (by decide) trivial hr (by kernel_rfl) [0]
  subst p4
  exact n25 (r := (0, .z)) hL (x25z bs ss t s t2 s2 0 c m c2 ex e2) (b := 1000000) (by rw [v25z]; rfl) (by decide) rfl
theorem c25m : ∀ al css os p v, sp25m al css = some (p, v) → p → Blks css os → (∀ cs ∈ css, cs.all Ex.flat = true) ∧ v.Ok Tryz.prog 25 al deads os (gl + css.length) := by
  intro al css os p v hs hp hb
  unfold sp25m at hs
  split at hs
  case h_2 => cases hs
  rename_i n c m c2 bs ss
  cases hs
  obtain ⟨t, s, ex, t2, s2, e2, rfl⟩ := blks2 hb
  obtain ⟨p1, p2, p3, p4⟩ := hp
  refine ⟨fun x hx => ?_, ?_⟩
  · simp only [List.mem_cons, List.not_mem_nil, or_false] at hx
    rcases hx with rfl | rfl
    · exact p1.1
    · exact p2.1
  have hr := run25 p1 p2 p3
  obtain ⟨k, rfl⟩ : ∃ k, n = k + 1 := ⟨n - 1, by omega⟩
  have hL := (L25 (t := t) (s := s) (t2 := t2) (s2 := s2) (ex := ex) (e2 := e2) (n := k + 1) (c := c) (m := m) (c2 := c2) p1.1 p2.1).table (id := 4) (s0 := .z) .none (by decide) trivial hr (by kernel_rfl) [0]
  exact n25 (r := (0, lsT bs ss (k + 1))) hL (x25m bs ss t s t2 s2 (k + 1) c m c2 ex e2 _ _ _ _) (b := 3) (by rw [show o25 bs ss t s t2 s2 (k + 1) c m c2 ex e2 (0, lsT bs ss (k + 1)) = o25 bs ss t s t2 s2 (k + 1) c m c2 ex e2 (0, .m _ _ _ _) from rfl, v25m]; rfl) (by decide) (latO_flat bs ss (k + 1))
noncomputable def T5 : Tb := ext (ext T4 25 (newE sp25z [] (heapL deads))) 1000025 (newE sp25m [] (heapL deads))
theorem ts5 {G : Nat} : TSound Tryz.prog G T5 := (ts4.new c25z).new c25m
end Go.Proofs.YtdnogbdfiahcaaaGreat.Ways
namespace Go.Proofs.YtdnogbdfiahcaaaGreat.Ways
open Go Go.Ex Go.RowKit
/-! ### checks and comparisons of lists of truth values -/
noncomputable def sp9 : Nat → Nat → Split := at_ [(20, 9), (22, 7), (22, 11), (22, 17), (26, 10), (26, 14), (26, 25), (53, 9), (53, 12)] .bool no_
def sy9 : Nat → Nat → Bool := on_ [(26, 19), (26, 20), (26, 23), (26, 24), (53, 10), (53, 11)]
noncomputable def C9 : Cfg := ⟨T5, sp9, sy9, noL⟩
noncomputable def B26 : Code := bodyL Tryz.f26 4
noncomputable def B53 : Code := bodyL Tryz.f53 3
section
variable (bs ss : List Value) (t s t2 s2 n c m c2 off : Nat) (ex e2 : Bool) (x y : Int)
theorem v52 : (execO Tryz.prog 2 C9 60 (.call 52 ⟨[sl 1 0 n c]⟩ (heapL [.dead, .cells bs t s ex]))).vals = .leaf (i (mnE n 1024)) := by kernel_rfl
theorem x52 : execO Tryz.prog 2 C9 60 (.call 52 ⟨[sl 1 0 n c]⟩ (heapL [.dead, .cells bs t s ex])) = (execO Tryz.prog 2 C9 60 (.call 52 ⟨[sl 1 0 n c]⟩ (heapL [.dead, .cells bs t s ex]))).fix := by kernel_rfl
noncomputable def o20 : Out QRes := execO Tryz.prog 2 C9 60 (.call 20 ⟨[sl 1 0 n c, i x, i y]⟩ (heapL [.dead, .cells bs t s ex]))
theorem v20 : (o20 bs t s n c ex x y).vals = .br (ltF 1024 n) (.leaf (i 5)) (.br (tru (okI [i (rgE y 1 1024), i (rgE x 1 y)] 2 2)) (.leaf (i (fst2 (rgE y 1 1024) (rgE x 1 y)))) .fail) := by kernel_rfl
theorem x20 : o20 bs t s n c ex x y = (o20 bs t s n c ex x y).fix := by kernel_rfl
noncomputable def o22 : Out QRes := execO Tryz.prog 3 C9 60 (.call 22 ⟨[sl 1 0 n c, sl 2 0 m c2]⟩ (heapL [.dead, .cells bs t s ex, .cells ss t2 s2 e2]))
theorem v22 : (o22 bs ss t s t2 s2 n c m c2 ex e2).vals = .br (ltF 1024 n) (.leaf (i 5)) (.br (ltF 1024 m) (.leaf (i 5)) (.br (!eqF n m) (.leaf (i 2)) (.leaf (i 0)))) := by kernel_rfl
theorem x22 : o22 bs ss t s t2 s2 n c m c2 ex e2 = (o22 bs ss t s t2 s2 n c m c2 ex e2).fix := by kernel_rfl
/-! SameBools -/
def S26 : Shape Int := ⟨26, fun j => ⟨[(0, sl 1 0 n c), (1, sl 2 0 m c2), (5, i j)], hpR bs ss t s t2 s2 ex e2⟩, fun k _ => match k with
  | 0 => (.exit 0, ⟨[], hpR bs ss t s t2 s2 ex e2⟩)
  | _ => (.ret, ⟨[(4, b_ false)], hpR bs ss t s t2 s2 ex e2⟩)⟩
def st26 (j : Int) : SS Int := .br (ltF j n) (askS (bnd_ j n c) <| askS (cb bs j) <| askS (bnd_ j m c2) <| askS (cb ss j) <| .br (!(bO bs j.toNat == bO ss j.toNat)) (.done 3 [0, 1, 2] 1) (.next 3 [0, 1, 2] (wrapF .i64 (j + 1)))) (.done 3 [0, 1, 2] 0)
noncomputable def K26 (r : Nat × Int) : Cfg := ⟨T5, sp9, sy9, loopE noL 26 4 26 3 B26 ((S26 bs ss t s t2 s2 n c m c2 ex e2).st 0).live ((S26 bs ss t s t2 s2 n c m c2 ex e2).st 0).hp (finO (S26 bs ss t s t2 s2 n c m c2 ex e2) r [0, 1])⟩
noncomputable def o26 (r : Nat × Int) : Out QRes := execO Tryz.prog 3 (K26 bs ss t s t2 s2 n c m c2 ex e2 r) 60 (.call 26 ⟨[sl 1 0 n c, sl 2 0 m c2]⟩ (heapL [.dead, .cells bs t s ex, .cells ss t2 s2 e2]))
theorem v26 (r : Nat × Int) : (o26 bs ss t s t2 s2 n c m c2 ex e2 r).vals = .br (!eqF n m) (.leaf (b_ false)) (.br (Nat.beq r.1 0) (.leaf (b_ true)) (.br (Nat.beq r.1 1) (.leaf (b_ false)) .fail)) := by kernel_rfl
theorem x26 (r : Nat × Int) : o26 bs ss t s t2 s2 n c m c2 ex e2 r = (o26 bs ss t s t2 s2 n c m c2 ex e2 r).fix := by kernel_rfl
/-! trues -/
def bF (cs : List Value) (off j : Nat) : Bool := boolO cs[off + j * 1]?
def S53 : Shape (Int × Int) := ⟨17, fun q => ⟨[(3, i q.2), (6, sl 1 off n c), (7, i n), (8, i q.1)], hpI bs t s ex⟩, fun _ q => (.exit 0, ⟨[(3, i q.2)], hpI bs t s ex⟩)⟩
def cbF (cs : List Value) (off : Nat) (j : Int) : Bool := isCellB .b cs[off + j.toNat * 1]?
def st53 (q : Int × Int) : SS (Int × Int) := .br (ltF q.1 n) (askS (bnd_ q.1 n c) <| askS (cbF bs off q.1) <| .br (bF bs off q.1.toNat) (.next 2 [0, 1] (wrapF .i64 (q.1 + 1), wrapF .i64 (q.2 + 1))) (.next 2 [0, 1] (wrapF .i64 (q.1 + 1), q.2))) (.done 2 [0, 1] 0)
noncomputable def K53 (r : Nat × Int × Int) : Cfg := ⟨T5, sp9, sy9, loopE noL 53 3 17 2 B53 ((S53 bs t s n c off ex).st (0, 0)).live ((S53 bs t s n c off ex).st (0, 0)).hp (finO (S53 bs t s n c off ex) r [0])⟩
noncomputable def o53 (r : Nat × Int × Int) : Out QRes := execO Tryz.prog 2 (K53 bs t s n c off ex r) 60 (.call 53 ⟨[sl 1 off n c]⟩ (heapL [.dead, .cells bs t s ex]))
theorem v53 (r : Nat × Int × Int) : (o53 bs t s n c off ex r).vals = .br (Nat.beq r.1 0) (.leaf (i r.2.2)) .fail := by kernel_rfl
theorem x53 (r : Nat × Int × Int) : o53 bs t s n c off ex r = (o53 bs t s n c off ex r).fix := by kernel_rfl
end
section
variable {bs ss : List Value} {t s t2 s2 n c m c2 off : Nat} {ex e2 : Bool}
theorem L26 (h : bs.all Ex.flat = true) (h2 : ss.all Ex.flat = true) : Loop1 Tryz.prog 3 26 B26 (S26 bs ss t s t2 s2 n c m c2 ex e2) 3 (st26 bs ss n c m c2) (fun _ => True) :=
  .mk' (C := fun _ => C9) (n := 40) (fun _ _ => ts5) (fun _ _ => .none) (fun s ro _ => by kernel_rfl) (fun s ro _ => by kernel_rfl) (fun s => by kernel_rfl) (fun _ _ _ _ => trivial) (fun _ _ => hpR_flat h h2)
    (fun s j _ _ => by cases j <;> exact ⟨hpR_flat h h2, fun h => by cases h⟩)
theorem L53 (h : bs.all Ex.flat = true) : Loop1 Tryz.prog 2 53 B53 (S53 bs t s n c off ex) 2 (st53 bs n c off) (fun _ => True) :=
  .mk' (C := fun _ => C9) (n := 40) (fun _ _ => ts5) (fun _ _ => .none) (fun s ro _ => by kernel_rfl) (fun s ro _ => by kernel_rfl) (fun s => by kernel_rfl) (fun _ _ _ _ => trivial) (fun _ _ => hpI_flat h)
    (fun s j _ _ => ⟨hpI_flat h, fun h => by cases h⟩)
end
/-! what they come to -/
def dB (bs ss : List Value) (j : Nat) : Int := if bO bs j = bO ss j then 0 else 1
theorem run26 {bs ss : List Value} {n c m c2 : Nat} (h : okB bs n c) (h2 : okB ss m c2) (hnm : n = m) : ∃ r, runS (st26 bs ss n c m c2) (n + 1) 0 = some r ∧ ((firstF (dB bs ss) n 0 = 0 ∧ r.1 = 0) ∨ (firstF (dB bs ss) n 0 ≠ 0 ∧ r.1 = 1)) := by
  subst hnm
  have hl := h.2.2.1
  have key := run_first (step := st26 bs ss n c n c2) (st := fun j => ((j : Nat) : Int)) (e := dB bs ss) (a := 0) (b := fun _ => 1) n (fun j hj he => ?_) (fun j hj he => ?_) ?_
  · obtain ⟨r, hr, hv⟩ := key
    refine ⟨r, hr, ?_⟩
    rcases hv with ⟨h1, rfl⟩ | ⟨h0, j, _, rfl, _, _⟩
    · exact .inl ⟨h1, rfl⟩
    · exact .inr ⟨h0, rfl⟩
  · have hb : bO bs j = bO ss j := Classical.byContradiction fun hc => by unfold dB at he; rw [if_neg hc] at he; exact absurd he (by decide)
    unfold st26
    rw [br_t (by rw [ltF_eq]; simpa using hj), askS_sel (bnd_t hj h.2.1), askS_sel (cb_t h hj), askS_sel (bnd_t hj h2.2.1), askS_sel (cb_t h2 hj), br_f (by show (!(bO bs j == bO ss j)) = false; rw [hb]; simp), wsucc (by omega)]; rfl
  · have hb : ¬ bO bs j = bO ss j := fun hc => by unfold dB at he; rw [if_pos hc] at he; exact he rfl
    unfold st26
    rw [br_t (by rw [ltF_eq]; simpa using hj), askS_sel (bnd_t hj h.2.1), askS_sel (cb_t h hj), askS_sel (bnd_t hj h2.2.1), askS_sel (cb_t h2 hj), br_t (by show (!(bO bs j == bO ss j)) = true; simpa using hb)]; rfl
  · unfold st26
    rw [br_f (by rw [ltF_eq]; simp)]; rfl
def cntB (cs : List Value) (off : Nat) : Nat → Nat
  | 0 => 0
  | j + 1 => if bF cs off j = true then cntB cs off j + 1 else cntB cs off j
theorem cntB_le (cs : List Value) (off : Nat) : ∀ j, cntB cs off j ≤ j
  | 0 => Nat.le_refl 0
  | j + 1 => by
    have := cntB_le cs off j
    unfold cntB
    split <;> omega
def okF (cs : List Value) (off n c : Nat) : Prop := cs.all Ex.flat = true ∧ n ≤ c ∧ n ≤ 1000000 ∧ ∀ j, j < n → isCellB .b cs[off + j * 1]? = true
theorem run53 {bs : List Value} {n c off : Nat} (h : okF bs off n c) : runS (st53 bs n c off) (n + 1) (0, 0) = some (0, ((n : Int), ((cntB bs off n : Nat) : Int))) := by
  have hl := h.2.2.1
  refine run_all (st := fun j => (((j : Nat) : Int), ((cntB bs off j : Nat) : Int))) n (fun j hj => ?_) ?_
  · have hle := cntB_le bs off j
    unfold st53
    dsimp only
    rw [br_t (by rw [ltF_eq]; simpa using hj), askS_sel (bnd_t hj h.2.1), askS_sel (show cbF bs off (j : Int) = true from h.2.2.2 j hj), show ((j : Nat) : Int).toNat = j from rfl]
    cases hb : bF bs off j with
    | true =>
      have e1 : cntB bs off (j + 1) = cntB bs off j + 1 := by show (if _ then _ else _) = _; rw [if_pos hb]
      rw [br_t rfl, e1, wsucc (by omega), wsucc (by omega)]; rfl
    | false =>
      have e1 : cntB bs off (j + 1) = cntB bs off j := by show (if _ then _ else _) = _; rw [if_neg (by rw [hb]; decide)]
      rw [br_f rfl, e1, wsucc (by omega)]; rfl
  · unfold st53
    dsimp only
    rw [br_f (by rw [ltF_eq]; simp)]; rfl
/-! the entries -/
def sp52 : ESpec := fun al css => match al, css with
  | [.slice (some ⟨1, 0, none⟩) n _], [cs] => some (cs.all Ex.flat = true, i (mnE n 1024))
  | _, _ => none
def cPe (n : Nat) (x y : Int) : Int := if 1024 < n then 5 else fst2 (rgE y 1 1024) (rgE x 1 y)
def sp20 : ESpec := fun al css => match al, css with
  | [.slice (some ⟨1, 0, none⟩) n _, .int .i64 x, .int .i64 y], [cs] => some (cs.all Ex.flat = true, i (cPe n x y))
  | _, _ => none
def cLa (n m : Nat) : Int := if 1024 < n ∨ 1024 < m then 5 else if n = m then 0 else 2
def sp22 : ESpec := fun al css => match al, css with
  | [.slice (some ⟨1, 0, none⟩) n _, .slice (some ⟨2, 0, none⟩) m _], [bs, ss] => some (bs.all Ex.flat = true ∧ ss.all Ex.flat = true, i (cLa n m))
  | _, _ => none
def same (bs ss : List Value) (n m : Nat) : Bool := decide (n = m) && decide (firstF (dB bs ss) n 0 = 0)
def sp26 : ESpec := fun al css => match al, css with
  | [.slice (some ⟨1, 0, none⟩) n c, .slice (some ⟨2, 0, none⟩) m c2], [bs, ss] => some (okB bs n c ∧ okB ss m c2, b_ (same bs ss n m))
  | _, _ => none
def sp53 : ESpec := fun al css => match al, css with
  | [.slice (some ⟨1, off, none⟩) n c], [bs] => some (okF bs off n c, i ((cntB bs off n : Nat) : Int))
  | _, _ => none
theorem c52 : ∀ al css os p v, sp52 al css = some (p, v) → p → Blks css os → (∀ cs ∈ css, cs.all Ex.flat = true) ∧ clean 6 v = true ∧ ∃ H', Sound Tryz.prog (gl + css.length) (.call 52 ⟨al⟩ (heapL (deads ++ os))) (.val v H') := by
  intro al css os p v hs hp hb
  unfold sp52 at hs
  split at hs
  case h_2 => cases hs
  rename_i n c cs
  cases hs
  obtain ⟨t, s, ex, rfl⟩ := blks1 hb
  refine ⟨by simpa using hp, rfl, ?_⟩
  obtain ⟨H', h'⟩ := Out.vals_sel (x52 cs t s n c ex) (v := i (mnE n 1024)) (by rw [v52]; rfl)
  exact ⟨H', execO_sound (C := C9) ts5 .none 60 _ _ h'⟩
theorem c20 : ∀ al css os p v, sp20 al css = some (p, v) → p → Blks css os → (∀ cs ∈ css, cs.all Ex.flat = true) ∧ clean 6 v = true ∧ ∃ H', Sound Tryz.prog (gl + css.length) (.call 20 ⟨al⟩ (heapL (deads ++ os))) (.val v H') := by
  intro al css os p v hs hp hb
  unfold sp20 at hs
  split at hs
  case h_2 => cases hs
  rename_i n c x y cs
  cases hs
  obtain ⟨t, s, ex, rfl⟩ := blks1 hb
  refine ⟨by simpa using hp, rfl, ?_⟩
  obtain ⟨H', h'⟩ := Out.vals_sel (x20 cs t s n c ex x y) (v := i (cPe n x y)) (by
    rw [v20]
    unfold cPe
    simp only [VT.sel, ltF_eq]
    rw [tru_iff.2 (okI2 _ _)]
    by_cases h : 1024 < n
    · rw [decide_eq_true (by omega), if_pos h]; rfl
    · rw [decide_eq_false (by omega), if_neg h]; rfl)
  exact ⟨H', execO_sound (C := C9) ts5 .none 60 _ _ h'⟩
theorem c22 : ∀ al css os p v, sp22 al css = some (p, v) → p → Blks css os → (∀ cs ∈ css, cs.all Ex.flat = true) ∧ clean 6 v = true ∧ ∃ H', Sound Tryz.prog (gl + css.length) (.call 22 ⟨al⟩ (heapL (deads ++ os))) (.val v H') := by
  intro al css os p v hs hp hb
  unfold sp22 at hs
  split at hs
  case h_2 => cases hs
  rename_i n c m c2 bs ss
  cases hs
  obtain ⟨t, s, ex, t2, s2, e2, rfl⟩ := blks2 hb
  refine ⟨by simpa using hp, rfl, ?_⟩
  obtain ⟨H', h'⟩ := Out.vals_sel (x22 bs ss t s t2 s2 n c m c2 ex e2) (v := i (cLa n m)) (by
    rw [v22]
    unfold cLa
    simp only [VT.sel, ltF_eq, eqF_d]
    by_cases h : 1024 < n
    · rw [decide_eq_true (by omega), if_pos (.inl h)]; rfl
    · rw [decide_eq_false (show ¬ (1024 : Int) < n by omega)]
      by_cases h' : 1024 < m
      · rw [decide_eq_true (show (1024 : Int) < m by omega), if_pos (.inr h')]; rfl
      · rw [decide_eq_false (show ¬ (1024 : Int) < m by omega), if_neg (by omega)]
        by_cases he : n = m
        · rw [decide_eq_true (by omega), if_pos he]; rfl
        · rw [decide_eq_false (by omega), if_neg he]; rfl)
  exact ⟨H', execO_sound (C := C9) ts5 .none 60 _ _ h'⟩
theorem c26 : ∀ al css os p v, sp26 al css = some (p, v) → p → Blks css os → (∀ cs ∈ css, cs.all Ex.flat = true) ∧ clean 6 v = true ∧ ∃ H', Sound Tryz.prog (gl + css.length) (.call 26 ⟨al⟩ (heapL (deads ++ os))) (.val v H') := by
  intro al css os p v hs hp hb
  unfold sp26 at hs
  split at hs
  case h_2 => cases hs
  rename_i n c m c2 bs ss
  cases hs
  obtain ⟨t, s, ex, t2, s2, e2, rfl⟩ := blks2 hb
  obtain ⟨p1, p2⟩ := hp
  refine ⟨fun x hx => ?_, rfl, ?_⟩
  · simp only [List.mem_cons, List.not_mem_nil, or_false] at hx
    rcases hx with rfl | rfl
    · exact p1.1
    · exact p2.1
  by_cases hnm : n = m
  · obtain ⟨r, hr, hv⟩ := run26 p1 p2 hnm
    have hL := (L26 (t := t) (s := s) (t2 := t2) (s2 := s2) (ex := ex) (e2 := e2) (n := n) (c := c) (m := m) (c2 := c2) p1.1 p2.1).table (id := 4) .none (by decide) trivial hr (by kernel_rfl) [0, 1]
    obtain ⟨H', h'⟩ := Out.vals_sel (x26 bs ss t s t2 s2 n c m c2 ex e2 r) (v := b_ (same bs ss n m)) (by
      rw [v26]
      unfold same
      simp only [VT.sel, eqF_d]
      rw [decide_eq_true (show (n : Int) = m by omega), decide_eq_true hnm]
      rcases hv with ⟨h1, h2⟩ | ⟨h1, h2⟩
      · rw [h2, decide_eq_true h1]; rfl
      · rw [h2, decide_eq_false h1]; rfl)
    exact ⟨H', execO_sound (C := K26 bs ss t s t2 s2 n c m c2 ex e2 r) ts5 hL 60 _ _ h'⟩
  · obtain ⟨H', h'⟩ := Out.vals_sel (x26 bs ss t s t2 s2 n c m c2 ex e2 (2, 0)) (v := b_ (same bs ss n m)) (by
      rw [v26]
      unfold same
      simp only [VT.sel, eqF_d]
      rw [decide_eq_false (show ¬ (n : Int) = m by omega), decide_eq_false hnm]; rfl)
    refine ⟨H', execO_sound (C := K26 bs ss t s t2 s2 n c m c2 ex e2 (2, 0)) ts5 ?_ 60 _ _ h'⟩
    exact LSound.loop .none (by kernel_rfl) (hpR_flat p1.1 p2.1) fun q hq => by cases hq
theorem c53 : ∀ al css os p v, sp53 al css = some (p, v) → p → Blks css os → (∀ cs ∈ css, cs.all Ex.flat = true) ∧ clean 6 v = true ∧ ∃ H', Sound Tryz.prog (gl + css.length) (.call 53 ⟨al⟩ (heapL (deads ++ os))) (.val v H') := by
  intro al css os p v hs hp hb
  unfold sp53 at hs
  split at hs
  case h_2 => cases hs
  rename_i off n c bs
  cases hs
  obtain ⟨t, s, ex, rfl⟩ := blks1 hb
  refine ⟨by simpa using hp.1, rfl, ?_⟩
  have hL := (L53 (t := t) (s := s) (ex := ex) hp.1).table (id := 3) .none (by decide) trivial (run53 hp) (by kernel_rfl) [0]
  obtain ⟨H', h'⟩ := Out.vals_sel (x53 bs t s n c off ex (0, ((n : Int), ((cntB bs off n : Nat) : Int)))) (v := i ((cntB bs off n : Nat) : Int)) (by rw [v53]; rfl)
  exact ⟨H', execO_sound (C := K53 bs t s n c off ex _) ts5 hL 60 _ _ h'⟩
noncomputable def T6 : Tb := ext (ext (ext (ext (ext T5 52 (autoE sp52 [] (heapL deads))) 20 (autoE sp20 [] (heapL deads))) 22 (autoE sp22 [] (heapL deads))) 26 (autoE sp26 [] (heapL deads))) 53 (autoE sp53 [] (heapL deads))
theorem ts6 {G : Nat} : TSound Tryz.prog G T6 := ((((ts5.auto c52).auto c20).auto c22).auto c26).auto c53
end Go.Proofs.YtdnogbdfiahcaaaGreat.Ways
namespace Go.Proofs.YtdnogbdfiahcaaaGreat.Ways
open Go Go.Ex Go.RowKit
/-! ### the program's Latch -/
def shB (x y : Int) : Int := if x = y then 0 else 2
theorem p57 (x y : Int) : Pure Tryz.prog Hd 57 [i x, i y] (i (shB x y)) := by
  refine pure_run (C := ⟨T6, at_ [(88, 5)] .bool no_, off_, noL⟩) (G := 1) 30 (.br (eqF x y) (.leaf (i 0)) (.leaf (i 2))) ts6 .none (by decide) hd_len rfl (by kernel_rfl) (by kernel_rfl) ?_
  simp only [VT.sel]
  unfold shB
  rw [eqF_d]
  by_cases h : x = y
  · rw [decide_eq_true h, if_pos h]; rfl
  · rw [decide_eq_false h, if_neg h]; rfl
def s57 : List Value → Option Value
  | [.int .i64 x, .int .i64 y] => some (i (shB x y))
  | _ => none
noncomputable def T7 : Tb := ext T6 57 (pureE s57 [] Hd)
theorem ts7 {G : Nat} : TSound Tryz.prog G T7 := by
  refine TSound.pure hd_vars ts6 fun args v h => ?_
  unfold s57 at h
  split at h
  · cases h; exact p57 _ _
  · cases h
noncomputable def spA : Nat → Nat → Split := at_ [(19, 21), (19, 28), (19, 36), (19, 42), (19, 47)] .bool no_
def syA : Nat → Nat → Bool := on_ [(19, 35), (19, 36), (19, 41), (19, 42), (19, 46), (19, 47), (19, 51), (19, 100051), (58, 7), (58, 200007)]
noncomputable def B19 : Code := bodyL Tryz.f19 6
section
variable (bs ss : List Value) (t s t2 s2 n c m c2 : Nat) (ex e2 : Bool)
def hpP (out : List Value) : List (CO × Bool) := [(.dead, false), (.cells bs t s ex, true), (.cells ss t2 s2 e2, true), (.dead, false), (.dead, false), (.cells out 4 1 false, true)]
def S19 : Shape (Int × List Value) := ⟨53, fun q => ⟨[(1, sl 2 0 m c2), (7, sl 5 0 n n), (8, i q.1)], hpP bs ss t s t2 s2 ex e2 q.2⟩, fun _ q => (.exit 0, ⟨[(7, sl 5 0 n n)], hpP bs ss t s t2 s2 ex e2 q.2⟩)⟩
def stx (j : Int) (out : List Value) (x : Bool) : SS (Int × List Value) := askS (bnd_ j n n) <| askS (decide (0 + j.toNat * 1 < out.length) && true) <| .next 6 [0, 1, 2, 3, 4, 5] (wrapF .i64 (j + 1), out.set (0 + j.toNat * 1) (b_ x))
def st19 (q : Int × List Value) : SS (Int × List Value) := .br (ltF q.1 n) (askS (bnd_ q.1 n n) <| askS (cb q.2 q.1) <| .br (bO q.2 q.1.toNat) (stx n q.1 q.2 true) <|
  askS (bnd_ (wrapF .i64 (q.1 - 1)) n n) <| askS (cb q.2 (wrapF .i64 (q.1 - 1))) <| .br (bO q.2 (wrapF .i64 (q.1 - 1)).toNat) (askS (bnd_ q.1 m c2) <| askS (cb ss q.1) <| .br (bO ss q.1.toNat) (stx n q.1 q.2 (!true)) (stx n q.1 q.2 (!false))) (stx n q.1 q.2 false)) (.done 6 [0, 1, 2, 3, 4, 5] 0)
noncomputable def K19 (r : Nat × Int × List Value) : Cfg := ⟨T7, spA, syA, loopE noL 19 6 53 6 B19 ((S19 bs ss t s t2 s2 n m c2 ex e2).st (1, (bs.drop 0).take (n * 1))).live ((S19 bs ss t s t2 s2 n m c2 ex e2).st (1, (bs.drop 0).take (n * 1))).hp (finO (S19 bs ss t s t2 s2 n m c2 ex e2) r [0])⟩
noncomputable def o19 (r : Nat × Int × List Value) : Out QRes := execO Tryz.prog 3 (K19 bs ss t s t2 s2 n m c2 ex e2 r) 60 (.call 19 ⟨[sl 1 0 n c, sl 2 0 m c2]⟩ (heapL (deads ++ [.cells bs t s ex, .cells ss t2 s2 e2])))
end
def Gd2 (q : Int × List Value) : Prop := q.2.all Ex.flat = true
section
variable {bs ss : List Value} {t s t2 s2 n c m c2 : Nat} {ex e2 : Bool}
theorem hpP_flat {out : List Value} (h : bs.all Ex.flat = true) (h2 : ss.all Ex.flat = true) (h3 : out.all Ex.flat = true) : ∀ o, (o, true) ∈ hpP bs ss t s t2 s2 ex e2 out → FlatO o := by
  intro o ho
  simp [hpP] at ho
  rcases ho with rfl | rfl | rfl
  · exact fun x hx => List.all_eq_true.1 h x hx
  · exact fun x hx => List.all_eq_true.1 h2 x hx
  · exact fun x hx => List.all_eq_true.1 h3 x hx
theorem br_or' {σ : Type} {b : Bool} {t e : SS σ} {r : σ ⊕ Nat} (h : (SS.br b t e).sel = some r) : t.sel = some r ∨ e.sel = some r := by
  have h' : cond b t.sel e.sel = some r := h
  cases b with
  | true => exact .inl h'
  | false => exact .inr h'
theorem ask_or' {σ : Type} {b : Bool} {t : SS σ} {r : σ ⊕ Nat} (h : (askS b t).sel = some r) : t.sel = some r := by
  rcases br_or' h with h | h
  · exact h
  · cases h
theorem all_set {l : List Value} {j : Nat} {x : Value} (h : l.all Ex.flat = true) (hx : Ex.flat x = true) : (l.set j x).all Ex.flat = true :=
  List.all_eq_true.2 fun y hy => by
    rcases List.mem_or_eq_of_mem_set hy with hy | rfl
    · exact List.all_eq_true.1 h y hy
    · exact hx
theorem good19 : ∀ q q', Gd2 q → (st19 ss n m c2 q).sel = some (.inl q') → Gd2 q' := by
  intro q q' hg h
  have hz : ∀ {x : Bool}, (stx n q.1 q.2 x).sel = some (.inl q') → Gd2 q' := fun h => by
    have h := ask_or' (ask_or' h)
    cases h
    exact all_set hg rfl
  rcases br_or' h with h | h
  · rcases br_or' (ask_or' (ask_or' h)) with h | h
    · exact hz h
    · rcases br_or' (ask_or' (ask_or' h)) with h | h
      · rcases br_or' (ask_or' (ask_or' h)) with h | h
        · exact hz h
        · exact hz h
      · exact hz h
  · cases h
theorem L19 (h : bs.all Ex.flat = true) (h2 : ss.all Ex.flat = true) : Loop1 Tryz.prog 3 19 B19 (S19 bs ss t s t2 s2 n m c2 ex e2) 6 (st19 ss n m c2) Gd2 :=
  .mk' (C := fun _ => ⟨T7, spA, syA, noL⟩) (n := 40) (fun _ _ => ts7) (fun _ _ => .none) (fun q ro _ => by kernel_rfl) (fun q ro _ => by kernel_rfl) (fun q => by kernel_rfl) good19
    (fun q hq => hpP_flat h h2 hq) (fun q j hq _ => ⟨hpP_flat h h2 hq, fun h => by cases h⟩)
end
end Go.Proofs.YtdnogbdfiahcaaaGreat.Ways
