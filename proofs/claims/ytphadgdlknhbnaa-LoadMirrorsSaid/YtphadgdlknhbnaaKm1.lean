import Derived.Test.YtphadgdlknhbnaaKi1
import Derived.Test.YtphadgdlknhbnaaKa1
import Derived.Test.YtphadgdlknhbnaaKb1
import Derived.Test.YtphadgdlknhbnaaLf3
import Derived.Test.YtphadgdlknhbnaaZz1
set_option maxRecDepth 10000
noncomputable section
namespace Go.Proofs.Ytphadgdlknhbnaa.Ways
open Go Go.Ex Go.RowKit Go.Turn
def P29 (cs : List Value) (n c : Nat) : Prop := c = n ∧ 1 ≤ n ∧ RowE cs n ∧ (n - 1) + (n - 1) < 900000 ∧ e29 cs (n - 1) = 0 ∧ CJ cs (n - 1) (dJ cs (n - 1)) ≠ []
def sp29w : NSpec := fun al css => match al, css with
  | [.slice (some ⟨1, 0, none⟩) n c], [cs] => some (P29 cs n c, .tup (CJ cs (n - 1) (dJ cs (n - 1))).length (CJ cs (n - 1) (dJ cs (n - 1))).length (flatC (CJ cs (n - 1) (dJ cs (n - 1)))) 83 4 false (i 0))
  | _, _ => none
theorem c29w : ∀ al css os p v, sp29w al css = some (p, v) → p → Blks css os → (∀ cs ∈ css, cs.all Ex.flat = true) ∧ v.Ok Try.prog 29 al deads os (gl + css.length) := by
  intro al css os p v hs hp hb
  unfold sp29w at hs
  split at hs
  case h_2 => cases hs
  rename_i n c cs
  cases hs
  obtain ⟨rfl, h1, h2, h3, h4, h5⟩ := hp
  obtain ⟨m, rfl⟩ : ∃ m, c = m + 1 := ⟨c - 1, by omega⟩
  exact c29 true true [sl 1 0 (m + 1) (m + 1)] [cs] os _ _ rfl ⟨rfl, h2, h3, h4, fun _ => h5, fun h => by cases h⟩ hb
noncomputable def TM9 : Tb := ext TZ3 9 (pureE s9 [] Hd)
noncomputable def TM8 (f : Bool) : Tb := ext (ext (ext (ext (ext (ext (ext (ext TM9 11 (newE (sp11 true false) [] (heapL deads))) 12 (xE 0 rd0 sp12 [] (heapL deads))) 13 (autoE (sp13g true) [] (heapL deads))) 19 (newE (sp19 false) [] (heapL deads))) 29 (newE sp29w [] (heapL deads)))
  36 (twoE (sp36 f) [] (heapL deads))) 39 (autoE (spSame eqP cP) [] (heapL deads))) 40 (newE sp40 [] (heapL deads))
theorem tsm9 {G : Nat} (haw : Pure Try.prog Hd 9 [] (b_ true)) : TSound Try.prog G TM9 := TSound.pure hd_vars tsZ3 fun args v h => by
  unfold s9 at h
  split at h
  · cases h; exact haw
  · cases h
theorem tsm8 {G : Nat} (haw : Pure Try.prog Hd 9 [] (b_ true)) (f : Bool) : TSound Try.prog G (TM8 f) :=
  ((((((((tsm9 haw).new (f' := 11) (c11 true false)).x c12).auto (c13g 13 (.inl rfl) true)).new (f' := 19) (c19 false)).new c29w).two (c36 f)).auto c39).new c40
noncomputable def B8 (id : Nat) : Code := bodyL Try.f8 id
end Go.Proofs.Ytphadgdlknhbnaa.Ways
set_option maxRecDepth 10000
noncomputable section
namespace Go.Proofs.Ytphadgdlknhbnaa.Ways
open Go Go.Ex Go.RowKit Go.Turn
noncomputable def C81 : Cfg := ⟨TM9, at_ [(8, 47), (8, 52), (8, 55)] .bool no_, on_ [(8, 49), (8, 50), (8, 65), (8, 66), (8, 68), (8, 300068), (8, 73), (8, 300073), (8, 78), (8, 300078)], noL⟩
noncomputable def C81z : Cfg := ⟨TM9, at_ [(8, 47), (8, 52), (8, 55)] .bool no_, on_ [(8, 49), (8, 50), (8, 65), (8, 66)], noL⟩
inductive KM where
  | z
  | m (j : Int) (l : Nat) (b u d : List Value)
def bkM (n : Nat) (j : Int) : Int := wrapF .i64 (wrapF .i64 (n - 1) - j)
def ngM (cs : List Value) (j : Int) : Int := IntKind.i64.wrap (0 - eI cs j.toNat)
def dbM (cs : List Value) (j : Int) : Int := wrapF .i64 (2 * eI cs j.toNat)
def fl1 (l : Nat) (b : List Value) : Bool := decide (l = l) && (decide (b.length = l * 1) && decide (l + 1 ≤ 1048576))
section
variable (cs : List Value) (n t s : Nat) (ex : Bool)
def rw1 (b : List Value) : CO × Bool := (.cells b 3 1 false, true)
def tdM : KM → Go.Ex.Told
  | .z => ⟨[(0, sl 1 0 n n), (3, .slice none 0 0), (4, .slice none 0 0), (5, .slice none 0 0), (44, sl 1 0 n n), (45, i n), (46, i 0)], [ddQ, (.cells cs t s ex, true)]⟩
  | .m j l b u d => ⟨[(0, sl 1 0 n n), (3, sl 2 0 l l), (4, sl 3 0 l l), (5, sl 4 0 l l), (44, sl 1 0 n n), (45, i n), (46, i j)], [ddQ, (.cells cs t s ex, true), rw1 b, rw1 u, rw1 d]⟩
def fdM : KM → Go.Ex.Told
  | .z => ⟨[(0, sl 1 0 n n), (3, .slice none 0 0), (4, .slice none 0 0), (5, .slice none 0 0)], [ddQ, (.cells cs t s ex, true)]⟩
  | .m _ l b u d => ⟨[(0, sl 1 0 n n), (3, sl 2 0 l l), (4, sl 3 0 l l), (5, sl 4 0 l l)], [ddQ, (.cells cs t s ex, true), rw1 b, rw1 u, rw1 d]⟩
def ShM : Shape KM := ⟨320, tdM cs n t s ex, fun k q => match k with
  | 0 => (.exit 0, fdM cs n t s ex q)
  | _ => (.ret, ⟨[(2, b_ true)], [ddQ, (.cells cs t s ex, true)]⟩)⟩
def stM : KM → SS KM
  | .z => .br (ltF 0 n) (askS (bnd_ 0 n n) <| askS (cB cs (.i .i64) 0) <| .br (ltF 16384 (eI cs 0)) (.done 2 [0, 1] 1) <| .br (ltF (eI cs 0) (-16384)) (.done 2 [0, 1] 1) <|
    askS (bnd_ (bkM n 0) n n) <| askS (cB cs (.i .i64) (bkM n 0)) <| .next 8 [0, 1, 3, 5, 7] (.m 1 1 [i (eI cs (bkM n 0).toNat)] [i (ngM cs 0)] [i (dbM cs 0)])) (.done 2 [0, 1] 0)
  | .m j l b u d => .br (ltF j n) (askS (bnd_ j n n) <| askS (cB cs (.i .i64) j) <| .br (ltF 16384 (eI cs j.toNat)) (.done 5 [0, 1] 1) <| .br (ltF (eI cs j.toNat) (-16384)) (.done 5 [0, 1] 1) <|
    askS (bnd_ (bkM n j) n n) <| askS (cB cs (.i .i64) (bkM n j)) <| askS (fl1 l b) <| askS (fl1 l u) <| askS (fl1 l d) <|
      .next 11 [0, 1, 6, 8, 10] (.m (wrapF .i64 (j + 1)) (l + 1) (b ++ [i (eI cs (bkM n j).toNat)]) (u ++ [i (ngM cs j)]) (d ++ [i (dbM cs j)]))) (.done 5 [0, 1, 2, 3, 4] 0)
end
def GdM8 : KM → Prop
  | .z => True
  | .m _ _ b u d => b.all Ex.flat = true ∧ u.all Ex.flat = true ∧ d.all Ex.flat = true
section
variable {cs : List Value} {n t s : Nat} {ex : Bool}
theorem three_flat {b u d : List Value} (h : cs.all Ex.flat = true) (g : b.all Ex.flat = true ∧ u.all Ex.flat = true ∧ d.all Ex.flat = true) : ∀ o, (o, true) ∈ [ddQ, (.cells cs t s ex, true), rw1 b, rw1 u, rw1 d] → FlatO o := by
  intro o ho
  simp [ddQ, rw1] at ho
  rcases ho with rfl | rfl | rfl | rfl
  · exact fun y hy => List.all_eq_true.1 h y hy
  · exact fun y hy => List.all_eq_true.1 g.1 y hy
  · exact fun y hy => List.all_eq_true.1 g.2.1 y hy
  · exact fun y hy => List.all_eq_true.1 g.2.2 y hy
theorem one_flatM (h : cs.all Ex.flat = true) : ∀ o, (o, true) ∈ [ddQ, (.cells cs t s ex, true)] → FlatO o := by
  intro o ho
  simp [ddQ] at ho
  subst ho; exact fun y hy => List.all_eq_true.1 h y hy
theorem tdM_flat (h : cs.all Ex.flat = true) {q : KM} (hq : GdM8 q) : (tdM cs n t s ex q).flat := by
  cases q with
  | z => exact one_flatM h
  | m _ _ _ _ _ => exact three_flat h hq
theorem fdM_flat (h : cs.all Ex.flat = true) {q : KM} (hq : GdM8 q) : (fdM cs n t s ex q).flat := by
  cases q with
  | z => exact one_flatM h
  | m _ _ _ _ _ => exact three_flat h hq
theorem goodM8 : ∀ q q', GdM8 q → (stM cs n q).sel = some (.inl q') → GdM8 q' := by
  intro q q' hg h
  cases q with
  | z =>
    rcases br_or' h with h | h
    · rcases br_or' (ask_or' (ask_or' h)) with h | h
      · cases h
      · rcases br_or' h with h | h
        · cases h
        · have h := ask_or' (ask_or' h)
          cases h; exact ⟨rfl, rfl, rfl⟩
    · cases h
  | m j l b u d =>
    rcases br_or' h with h | h
    · rcases br_or' (ask_or' (ask_or' h)) with h | h
      · cases h
      · rcases br_or' h with h | h
        · cases h
        · have h := ask_or' (ask_or' (ask_or' (ask_or' (ask_or' h))))
          cases h; exact ⟨app_flat hg.1 rfl, app_flat hg.2.1 rfl, app_flat hg.2.2 rfl⟩
    · cases h
theorem LM1 (haw : Pure Try.prog Hd 9 [] (b_ true)) (h : cs.all Ex.flat = true) : Loop1 Try.prog 2 8 (B8 5) (ShM cs n t s ex) 2 (stM cs n) GdM8 :=
  .mk' (C := fun q => match q with
    | .z => C81z
    | .m _ _ _ _ _ => C81) (n := 60) (fun q _ => by cases q <;> exact tsm9 haw) (fun q _ => by cases q <;> exact .none)
    (fun q ro _ => by cases q <;> kernel_rfl) (fun q ro _ => by cases q <;> kernel_rfl) (fun q => by cases q <;> kernel_rfl)
    goodM8 (fun _ hq => tdM_flat h hq) (fun q k hq _ => by
      match k with
      | 0 => exact ⟨fdM_flat h hq, fun h => by cases h⟩
      | k + 1 => exact ⟨one_flatM h, fun h => by cases h⟩)
end
end Go.Proofs.Ytphadgdlknhbnaa.Ways
set_option maxRecDepth 10000
noncomputable section
namespace Go.Proofs.Ytphadgdlknhbnaa.Ways
open Go Go.Ex Go.RowKit Go.Turn
def hpG (K : Nat) (l : List (Nat × CO)) : List (CO × Bool) := (List.range K).map fun k => match l.lookup k with
  | some o => (o, true)
  | none => (.dead, false)
theorem look_mem {k : Nat} {o : CO} : ∀ {l : List (Nat × CO)}, l.lookup k = some o → (k, o) ∈ l
  | [], h => by cases h
  | (a, b) :: l, h => by
    rw [List.lookup_cons] at h
    split at h
    · rename_i hk
      have : k = a := by simpa using hk
      cases h
      rw [this]; exact List.mem_cons_self ..
    · exact List.mem_cons_of_mem _ (look_mem h)
theorem hpG_flat {K : Nat} {l : List (Nat × CO)} (h : ∀ p ∈ l, FlatO p.2) : ∀ o, (o, true) ∈ hpG K l → FlatO o := by
  intro o ho
  obtain ⟨k, _, hk⟩ := List.mem_map.1 ho
  split at hk
  · rename_i q hq
    cases hk
    exact h _ (look_mem hq)
  · cases hk
structure MD where
  cs : List Value
  n : Nat
  t : Nat
  s : Nat
  ex : Bool
  dc : List Value
  db : List Value
  du : List Value
  dd : List Value
  lc : Nat
  lb : Nat
  lu : Nat
  ld : Nat
  cy : List Value
  cu : List Value
  cd : List Value
  kc : Nat
  ku : Nat
  kd : Nat
def MD.hA (m : MD) : List (Nat × CO) := [(1, .cells m.cs m.t m.s m.ex), (5, .cells m.cy 69 4 false), (6, .cells m.dc 70 2 false), (8, .cells m.db 70 2 false), (9, .cells m.cu 69 4 false), (10, .cells m.du 70 2 false), (11, .cells m.cd 69 4 false), (12, .cells m.dd 70 2 false)]
def MD.hN (m : MD) : List (Nat × CO) := [(1, .cells m.cs m.t m.s m.ex), (5, .cells m.dc 70 2 false), (6, .cells m.db 70 2 false), (7, .cells m.du 70 2 false), (8, .cells m.dd 70 2 false)]
def MD.hp (m : MD) (f : Bool) : List (CO × Bool) := cond f (hpG 15 m.hA) (hpG 9 m.hN)
def KA (f : Bool) : Nat := cond f 15 9
def MD.live (m : MD) (f : Bool) : List (Nat × Value) := cond f
  [(0, sl 1 0 m.n m.n), (8, sl 5 0 m.kc m.kc), (9, sl 6 0 m.lc m.lc), (12, sl 8 0 m.lb m.lb), (14, sl 9 0 m.ku m.ku), (15, sl 10 0 m.lu m.lu), (17, sl 11 0 m.kd m.kd), (18, sl 12 0 m.ld m.ld)]
  [(0, sl 1 0 m.n m.n), (8, .slice none 0 0), (9, sl 5 0 m.lc m.lc), (12, sl 6 0 m.lb m.lb), (14, .slice none 0 0), (15, sl 7 0 m.lu m.lu), (17, .slice none 0 0), (18, sl 8 0 m.ld m.ld)]
def MD.sc (m : MD) (f : Bool) : Value := cond f (sl 6 0 m.lc m.lc) (sl 5 0 m.lc m.lc)
structure MD.Flat (m : MD) : Prop where
  cs : m.cs.all Ex.flat = true
  dc : m.dc.all Ex.flat = true
  db : m.db.all Ex.flat = true
  du : m.du.all Ex.flat = true
  dd : m.dd.all Ex.flat = true
  cy : m.cy.all Ex.flat = true
  cu : m.cu.all Ex.flat = true
  cd : m.cd.all Ex.flat = true
theorem MD.hp_flat {m : MD} (h : m.Flat) (f : Bool) : ∀ o, (o, true) ∈ m.hp f → FlatO o := by
  have key : ∀ {cs : List Value} {t s : Nat} {ex : Bool}, cs.all Ex.flat = true → FlatO (.cells cs t s ex) := fun h => fun y hy => List.all_eq_true.1 h y hy
  cases f with
  | true =>
    refine hpG_flat fun p hp => ?_
    simp only [MD.hA, List.mem_cons, List.not_mem_nil, or_false] at hp
    rcases hp with rfl | rfl | rfl | rfl | rfl | rfl | rfl | rfl
    · exact key h.cs
    · exact key h.cy
    · exact key h.dc
    · exact key h.db
    · exact key h.cu
    · exact key h.du
    · exact key h.cd
    · exact key h.dd
  | false =>
    refine hpG_flat fun p hp => ?_
    simp only [MD.hN, List.mem_cons, List.not_mem_nil, or_false] at hp
    rcases hp with rfl | rfl | rfl | rfl | rfl
    · exact key h.cs
    · exact key h.dc
    · exact key h.db
    · exact key h.du
    · exact key h.dd
noncomputable def C82 : Cfg := ⟨TM9, at_ [(8, 150), (8, 166), (8, 179), (8, 192), (8, 206), (8, 219), (8, 237), (8, 256), (8, 273)] .bool no_, on_ [(8, 158), (8, 160), (8, 163), (8, 165), (8, 170), (8, 172), (8, 175), (8, 177), (8, 184), (8, 186), (8, 189), (8, 191), (8, 197), (8, 199), (8, 202), (8, 204), (8, 211), (8, 213), (8, 216), (8, 218), (8, 239), (8, 240), (8, 243), (8, 244), (8, 260), (8, 261)], noL⟩
end Go.Proofs.Ytphadgdlknhbnaa.Ways
set_option maxRecDepth 10000
noncomputable section
namespace Go.Proofs.Ytphadgdlknhbnaa.Ways
open Go Go.Ex Go.RowKit Go.Turn
def ngI (x : Int) : Int := IntKind.i64.wrap (0 - x)
def dbI (x : Int) : Int := wrapF .i64 (2 * x)
def aAE (ds : List Value) (ld : Nat) (w : Int) (u : SS Int) : SS Int := askS (bnd_ w ld ld) (askS (cA ds w) u)
def aFE (cs : List Value) (n : Nat) (j : Int) (u : SS Int) : SS Int := askS (bnd_ j n n) (askS (cF cs j) u)
def eqN (a b : List Value) (j : Nat) : Bool := f_ a j 0 == f_ b j 0 && (f_ a j 1 == f_ b j 1 && (f_ a j 2 == ngI (f_ b j 3) && (f_ a j 3 == ngI (f_ b j 2) && true)))
def eqD (a b : List Value) (j : Nat) : Bool := f_ a j 0 == f_ b j 0 && (f_ a j 1 == f_ b j 1 && (f_ a j 2 == dbI (f_ b j 2) && (f_ a j 3 == dbI (f_ b j 3) && true)))
section
variable (m : MD) (f : Bool)
def S18m : Shape Int := ⟨320, fun j => ⟨m.live f ++ [(147, m.sc f), (148, i m.lc), (149, i j)], m.hp f⟩, fun k _ => match k with
  | 0 => (.exit 2, ⟨m.live f, m.hp f⟩)
  | _ => (.ret, ⟨[(2, b_ false)], m.hp f⟩)⟩
def st18m' (K : Nat) (j w : Int) : SS Int := .br (ltF j m.lc) (aDE m.db m.lb w <| aDE m.dc m.lc j <| .br (!eqF (pB m.db w.toNat) (pB m.dc j.toNat)) (.done K (List.range K) 1) <|
  aDE m.du m.lu j <| aDE m.dc m.lc j <| .br (!eqF (pB m.du j.toNat) (ngI (pB m.dc j.toNat))) (.done K (List.range K) 1) <| aAE m.du m.lu j <| aAE m.dc m.lc j <| .br (!eqF (pA m.du j.toNat) (pA m.dc j.toNat)) (.done K (List.range K) 1) <|
  aDE m.dd m.ld j <| aDE m.dc m.lc j <| .br (!eqF (pB m.dd j.toNat) (dbI (pB m.dc j.toNat))) (.done K (List.range K) 1) <| aAE m.dd m.ld j <| aAE m.dc m.lc j <| .br (!eqF (pA m.dd j.toNat) (pA m.dc j.toNat)) (.done K (List.range K) 1) <|
  .next K (List.range K) (wrapF .i64 (j + 1))) (.done K (List.range K) 0)
def st18m (j : Int) : SS Int := st18m' m (KA f) j (wrapF .i64 (wrapF .i64 (m.lb - 1) - j))
def S26m : Shape Int := ⟨320, fun j => ⟨m.live true ++ [(234, sl 5 0 m.kc m.kc), (235, i m.kc), (236, i j)], m.hp true⟩, fun k _ => match k with
  | 0 => (.exit 4, ⟨m.live true, m.hp true⟩)
  | _ => (.ret, ⟨[(2, b_ false)], m.hp true⟩)⟩
def st26m (j : Int) : SS Int := .br (ltF j m.kc) (aFE m.cy m.kc j <| aFE m.cu m.ku j <| .br (!eqN m.cu m.cy j.toNat) (.done 16 (List.range 15) 1) <| aFE m.cd m.kd j <| .br (!eqD m.cd m.cy j.toNat) (.done 16 (List.range 15) 1) <|
  .next 16 (List.range 15) (wrapF .i64 (j + 1))) (.done 15 (List.range 15) 0)
end
section
variable {m : MD}
theorem LM18 (haw : Pure Try.prog Hd 9 [] (b_ true)) (h : m.Flat) (f : Bool) : Loop1 Try.prog 2 8 (B8 18) (S18m m f) (KA f) (st18m m f) (fun _ => True) :=
  .mk' (C := fun _ => C82) (n := 80) (fun _ _ => tsm9 haw) (fun _ _ => .none) (fun q ro _ => by cases f <;> kernel_rfl) (fun q ro _ => by cases f <;> kernel_rfl) (fun q => by cases f <;> kernel_rfl) (fun _ _ _ _ => trivial)
    (fun _ _ => MD.hp_flat h f) (fun q k _ _ => by
      match k with
      | 0 => exact ⟨MD.hp_flat h f, fun h => by cases h⟩
      | k + 1 => exact ⟨MD.hp_flat h f, fun h => by cases h⟩)
theorem LM26 (haw : Pure Try.prog Hd 9 [] (b_ true)) (h : m.Flat) : Loop1 Try.prog 2 8 (B8 26) (S26m m) 15 (st26m m) (fun _ => True) :=
  .mk' (C := fun _ => C82) (n := 80) (fun _ _ => tsm9 haw) (fun _ _ => .none) (fun q ro _ => by kernel_rfl) (fun q ro _ => by kernel_rfl) (fun q => by kernel_rfl) (fun _ _ _ _ => trivial)
    (fun _ _ => MD.hp_flat h true) (fun q k _ _ => by
      match k with
      | 0 => exact ⟨MD.hp_flat h true, fun h => by cases h⟩
      | k + 1 => exact ⟨MD.hp_flat h true, fun h => by cases h⟩)
end
end Go.Proofs.Ytphadgdlknhbnaa.Ways
set_option maxRecDepth 10000
noncomputable section
namespace Go.Proofs.Ytphadgdlknhbnaa.Ways
open Go Go.Ex Go.RowKit Go.Turn
section
variable (cs b u d : List Value) (n t s : Nat) (ex : Bool)
noncomputable def mdM : MD := { cs := cs, n := n, t := t, s := s, ex := ex, dc := DS_ cs n, db := DS_ b n, du := DS_ u n, dd := DS_ d n, lc := LD_ cs n, lb := LD_ b n, lu := LD_ u n, ld := LD_ d n, cy := flatC (CC_ cs n), cu := flatC (CC_ u n), cd := flatC (CC_ d n), kc := (CC_ cs n).length, ku := (CC_ u n).length, kd := (CC_ d n).length }
noncomputable def L81 (r : Nat × KM) : LTab := loopE noL 8 5 320 2 (B8 5) ((ShM cs n t s ex).st .z).live ((ShM cs n t s ex).st .z).hp (finO (ShM cs n t s ex) r [0, 1])
noncomputable def L82 (f : Bool) (r : Nat × Int) (L : LTab) : LTab := loopE L 8 18 320 (KA f) (B8 18) ((S18m (mdM cs b u d n t s ex) f).st 0).live ((S18m (mdM cs b u d n t s ex) f).st 0).hp (finO (S18m (mdM cs b u d n t s ex) f) r [0])
noncomputable def L83 (r : Nat × Int) (L : LTab) : LTab := loopE L 8 26 320 15 (B8 26) ((S26m (mdM cs b u d n t s ex)).st 0).live ((S26m (mdM cs b u d n t s ex)).st 0).hp (finO (S26m (mdM cs b u d n t s ex)) r [0])
def spM8 : Nat → Nat → Split := at_ [(8, 36), (8, 124), (8, 131), (8, 138), (8, 145), (8, 226), (8, 232), (8, 278)] .bool no_
end
section
variable (K p : Nat) (ck : List Value) (lk : Nat) (g : Int)
def S39m : Shape Int := ⟨320, fun j => ⟨[(27, i g), (306, sl p 0 lk lk), (307, i lk), (308, i j)], hpG K [(p, .cells ck 83 4 false)]⟩, fun k _ => match k with
  | 0 => (.exit 6, ⟨[], hpG K [(p, .cells ck 83 4 false)]⟩)
  | _ => (.ret, ⟨[(2, b_ true)], hpG K [(p, .cells ck 83 4 false)]⟩)⟩
def st39m (j : Int) : SS Int := .br (ltF j lk) (aFE ck lk j <| .br (eqF (wrapF .i64 (f_ ck j.toNat 3 - f_ ck j.toNat 2)) g) (.done (K + 1) (List.range K) 1) (.next (K + 1) (List.range K) (wrapF .i64 (j + 1)))) (.done K (List.range K) 0)
noncomputable def C84 : Cfg := ⟨TM9, at_ [(8, 309), (8, 318)] .bool no_, on_ [(8, 310), (8, 311)], noL⟩
noncomputable def L84 (r : Nat × Int) (L : LTab) : LTab := loopE L 8 39 320 K (B8 39) ((S39m K p ck lk g).st 0).live ((S39m K p ck lk g).st 0).hp (finO (S39m K p ck lk g) r [0, 1])
end
section
variable {ck : List Value} {lk : Nat} {g : Int}
theorem h39_flat {K p : Nat} (h : ck.all Ex.flat = true) : ∀ o, (o, true) ∈ hpG K [(p, .cells ck 83 4 false)] → FlatO o := hpG_flat fun q hq => by
  rw [List.mem_singleton] at hq
  subst hq
  exact fun y hy => List.all_eq_true.1 h y hy
theorem LM39A (haw : Pure Try.prog Hd 9 [] (b_ true)) (h : ck.all Ex.flat = true) : Loop1 Try.prog 2 8 (B8 39) (S39m 19 16 ck lk g) 19 (st39m 19 ck lk g) (fun _ => True) :=
  .mk' (C := fun _ => C84) (n := 80) (fun _ _ => tsm9 haw) (fun _ _ => .none) (fun q ro _ => by kernel_rfl) (fun q ro _ => by kernel_rfl) (fun q => by kernel_rfl) (fun _ _ _ _ => trivial)
    (fun _ _ => h39_flat h) (fun q k _ _ => by
      match k with
      | 0 => exact ⟨h39_flat h, fun h => by cases h⟩
      | k + 1 => exact ⟨h39_flat h, fun h => by cases h⟩)
theorem LM39N (haw : Pure Try.prog Hd 9 [] (b_ true)) (h : ck.all Ex.flat = true) : Loop1 Try.prog 2 8 (B8 39) (S39m 13 10 ck lk g) 13 (st39m 13 ck lk g) (fun _ => True) :=
  .mk' (C := fun _ => C84) (n := 80) (fun _ _ => tsm9 haw) (fun _ _ => .none) (fun q ro _ => by kernel_rfl) (fun q ro _ => by kernel_rfl) (fun q => by kernel_rfl) (fun _ _ _ _ => trivial)
    (fun _ _ => h39_flat h) (fun q k _ _ => by
      match k with
      | 0 => exact ⟨h39_flat h, fun h => by cases h⟩
      | k + 1 => exact ⟨h39_flat h, fun h => by cases h⟩)
end
section
variable (cs b u d : List Value) (n t s : Nat) (ex : Bool) (j2 j3 : Int) (r4 : Nat × Int)
noncomputable def CyK : List Cy := CJ (DS_ cs n) (LD_ cs n - 1) (dJ (DS_ cs n) (LD_ cs n - 1))
def gRm : Int := grE (flatP (rvI cs n)) (rvI cs n).length
noncomputable def C8A : Cfg := ⟨TM8 true, spM8, off_, L84 19 16 (flatC (CyK cs n)) (CyK cs n).length (gRm cs n) r4 (L83 cs b u d n t s ex (0, j3) (L82 cs b u d n t s ex true (0, j2) (L81 cs n t s ex (0, .m n n b u d))))⟩
noncomputable def C8N : Cfg := ⟨TM8 false, spM8, off_, L84 13 10 (flatC (CyK cs n)) (CyK cs n).length (gRm cs n) r4 (L82 cs b u d n t s ex false (0, j2) (L81 cs n t s ex (0, .m n n b u d)))⟩
noncomputable def o8A : Out QRes := execO Try.prog 2 (C8A cs b u d n t s ex j2 j3 r4) 120 (.call 8 ⟨[sl 1 0 n n]⟩ (heapL (deads ++ [.cells cs t s ex])))
noncomputable def o8N : Out QRes := execO Try.prog 2 (C8N cs b u d n t s ex j2 r4) 120 (.call 8 ⟨[sl 1 0 n n]⟩ (heapL (deads ++ [.cells cs t s ex])))
def lfT : VT := .leaf (b_ true)
def lfF : VT := .leaf (b_ false)
noncomputable def vP (p : Prop) (t : VT) : VT := .br (tru p) t .fail
noncomputable def e8 : VT := .br (ltF (LD_ cs n) 2) lfT <| vP (CmE (DS_ cs n) (LD_ cs n) (LD_ cs n)) <| vP (P29 (DS_ cs n) (LD_ cs n) (LD_ cs n)) <| vP (okC cs n n) <| vP (RmE cs n n) <|
  vP (BokE (RS_ cs n) (RN_ cs n) (RN_ cs n) ∧ crE (RS_ cs n) (RN_ cs n) = 0 ∧ 2 ≤ RN_ cs n) <| .br (Nat.beq r4.1 0) lfF (.br (Nat.beq r4.1 1) lfT .fail)
noncomputable def t8A : VT := .br (ltF 24 n) lfT <| vP (LokE cs n n) <| .br true (vP (n = n ∧ P36 true cs n) <| vP (n = n ∧ P36 true b n) <| vP (n = n ∧ P36 true u n) <| vP (n = n ∧ P36 true d n) <|
  vP (V40 (flatC (CC_ b n)) (CC_ b n).length (CC_ b n).length) <| vP (V40 (flatC (CC_ cs n)) (CC_ cs n).length (CC_ cs n).length) <|
  vP (okX cP (flatP (soV (flatC (CC_ b n)) (CC_ b n).length).reverse) (CC_ b n).length (CC_ b n).length ∧ okX cP (flatP (soV (flatC (CC_ cs n)) (CC_ cs n).length).reverse) (CC_ cs n).length (CC_ cs n).length) <|
  .br (!sameE eqP (flatP (soV (flatC (CC_ b n)) (CC_ b n).length).reverse) (flatP (soV (flatC (CC_ cs n)) (CC_ cs n).length).reverse) (CC_ b n).length (CC_ cs n).length) lfF <|
  .br (!eqF (LD_ b n) (LD_ cs n)) lfF <| .br (!eqF (LD_ u n) (LD_ cs n)) lfF <| .br (!eqF (LD_ d n) (LD_ cs n)) lfF <| .br true (.br (!eqF (CC_ u n).length (CC_ cs n).length) lfF <| .br (!eqF (CC_ d n).length (CC_ cs n).length) lfF <|
  .br true (e8 cs n r4) .fail) .fail) (.br false lfT .fail)
noncomputable def t8N : VT := .br (ltF 24 n) lfT <| vP (LokE cs n n) <| .br true (vP (n = n ∧ P36 false cs n) <| vP (n = n ∧ P36 false b n) <| vP (n = n ∧ P36 false u n) <| vP (n = n ∧ P36 false d n) <|
  .br (!true) lfF <| .br (!eqF (LD_ b n) (LD_ cs n)) lfF <| .br (!eqF (LD_ u n) (LD_ cs n)) lfF <| .br (!eqF (LD_ d n) (LD_ cs n)) lfF <| .br true (.br (!eqF 0 0) lfF <| .br (!eqF 0 0) lfF <| e8 cs n r4) .fail) (.br false lfT .fail)
theorem v8A : (o8A cs b u d n t s ex j2 j3 r4).vals = t8A cs b u d n r4 := by kernel_rfl
theorem x8A : o8A cs b u d n t s ex j2 j3 r4 = (o8A cs b u d n t s ex j2 j3 r4).fix := by kernel_rfl
theorem v8N : (o8N cs b u d n t s ex j2 r4).vals = t8N cs b u d n r4 := by kernel_rfl
theorem x8N : o8N cs b u d n t s ex j2 r4 = (o8N cs b u d n t s ex j2 r4).fix := by kernel_rfl
end
end Go.Proofs.Ytphadgdlknhbnaa.Ways
set_option maxRecDepth 10000
noncomputable section
namespace Go.Proofs.Ytphadgdlknhbnaa.Ways
open Go Go.Ex Go.RowKit Go.Turn
noncomputable def TMb : Tb := ext TM9 13 (autoE sp13b [] (heapL deads))
noncomputable def TMg : Tb := ext TM9 13 (autoE (sp13g true) [] (heapL deads))
noncomputable def TMz : Tb := ext (ext (ext TM9 11 (newE (sp11 true true) [] (heapL deads))) 12 (xE 0 rd0 sp12 [] (heapL deads))) 13 (autoE (sp13g true) [] (heapL deads))
section
variable (cs : List Value) (n : Nat) (t s : Nat) (ex : Bool)
noncomputable def C8b : Cfg := ⟨TMb, at_ [(8, 36)] .bool no_, off_, noL⟩
noncomputable def o8b : Out QRes := execO Try.prog 2 C8b 80 (.call 8 ⟨[sl 1 0 n n]⟩ (heapL (deads ++ [.cells cs t s ex])))
theorem v8b : (o8b cs n t s ex).vals = .br (ltF 24 n) (.leaf (b_ true)) (aV (tru (okI cs n n ∧ clE cs n = 3)) (.leaf (b_ true))) := by kernel_rfl
theorem x8b : o8b cs n t s ex = (o8b cs n t s ex).fix := by kernel_rfl
noncomputable def L8e : LTab := loopE noL 8 5 320 2 (B8 5) ((ShM cs n t s ex).st .z).live ((ShM cs n t s ex).st .z).hp (finO (ShM cs n t s ex) (1, .z) [1])
noncomputable def C8e : Cfg := ⟨TMg, at_ [(8, 36)] .bool no_, off_, L8e cs n t s ex⟩
noncomputable def o8e : Out QRes := execO Try.prog 2 (C8e cs n t s ex) 80 (.call 8 ⟨[sl 1 0 n n]⟩ (heapL (deads ++ [.cells cs t s ex])))
theorem v8e : (o8e cs n t s ex).vals = .br (ltF 24 n) (.leaf (b_ true)) (aV (tru (LokE cs n n)) (aV true (.leaf (b_ true)))) := by kernel_rfl
theorem x8e : o8e cs n t s ex = (o8e cs n t s ex).fix := by kernel_rfl
noncomputable def C8z : Cfg := ⟨TMz, no_, off_, noL⟩
noncomputable def o8z : Out QRes := execO Try.prog 2 C8z 200 (.call 8 ⟨[sl 1 0 0 0]⟩ (heapL (deads ++ [.cells cs t s ex])))
theorem v8z : (o8z cs t s ex).vals = (aV (tru (LokE cs 0 0)) <| aV (tru (okC cs 0 0)) <| aV (tru (RzE cs 0 0)) <| aV (tru (RzE [] 0 0)) <| aV (tru (RzE [] 0 0)) <| aV (tru (RzE [] 0 0)) <| .leaf (b_ true)) := by kernel_rfl
theorem x8z : o8z cs t s ex = (o8z cs t s ex).fix := by kernel_rfl
end
end Go.Proofs.Ytphadgdlknhbnaa.Ways
