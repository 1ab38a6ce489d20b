import Derived.Test.YtphadgdlknhbnaaZe1
import Derived.Test.YtphadgdlknhbnaaZe2
import Derived.Test.YtphadgdlknhbnaaLr3
import Derived.Test.YtphadgdlknhbnaaLc5
set_option maxRecDepth 10000
noncomputable section
namespace Go.Proofs.Ytphadgdlknhbnaa.Ways
open Go Go.Ex Go.RowKit Go.Turn
noncomputable def TE (g f : Bool) : Tb := ext (ext (ext (ext (ext (ext (ext (ext (ext (ext (ext TZ3 9 (pureE s9 [] Hd)) 11 (newE (sp11 true false) [] (heapL deads))) 12 (xE 0 rd0 sp12 [] (heapL deads))) 13 (autoE (sp13g g) [] (heapL deads))) 17 (newE sp17t [] (heapL deads)))
  18 (autoE (sp18g true) [] (heapL deads))) 19 (newE (sp19 false) [] (heapL deads))) 20 (autoE (sp18g true) [] (heapL deads))) 26 (newE (sp23 69) [] (heapL deads))) 59 (twoE (sp59 f) [] (heapL deads))) 70 (autoE sp70 [] (heapL deads))
theorem tsE {G : Nat} (haw : Pure Try.prog Hd 9 [] (b_ true)) (g f : Bool) : TSound Try.prog G (TE g f) := by
  have h9 : TSound Try.prog G (ext TZ3 9 (pureE s9 [] Hd)) := TSound.pure hd_vars tsZ3 fun args v h => by
    unfold s9 at h
    split at h
    · cases h; exact haw
    · cases h
  exact ((((((((((h9.new (f' := 11) (c11 true false)).x c12).auto (c13g 13 (.inl rfl) g)).new c17t).auto (c18g 18 (.inl rfl) true)).new (f' := 19) (c19 false)).auto (c18g 20 (.inr rfl) true)).new c26).two (c59 f)).auto c70)
end Go.Proofs.Ytphadgdlknhbnaa.Ways
set_option maxRecDepth 10000
noncomputable section
namespace Go.Proofs.Ytphadgdlknhbnaa.Ways
open Go Go.Ex Go.RowKit Go.Turn
noncomputable def BE6 (id : Nat) : Code := bodyL Try.f6 id
noncomputable def CE6 : Cfg := ⟨TZ3, at_ [(6, 97), (6, 109), (6, 133), (6, 146), (6, 152), (6, 166), (6, 171), (6, 178)] .bool no_,
  on_ [(6, 98), (6, 99), (6, 100102), (6, 110), (6, 111), (6, 115), (6, 100114), (6, 120), (6, 100119), (6, 125), (6, 129), (6, 138), (6, 142), (6, 153), (6, 154), (6, 158), (6, 100157), (6, 163), (6, 172), (6, 173), (6, 177)], noL⟩
abbrev Mp := List MapEntry × Nat
def upM (k : Int) (v : Int) (m : Mp) : Mp := (updE k (i v) m.2 m.1, clkE k m.2 m.1)
def incM (k : Int) (m : Mp) : Mp := upM k (wrapF .i64 (mapIV m.1 k + 1)) m
def okM (m : Mp) : Bool := keysI m.1 && valsI m.1
abbrev ES := Int × Mp × Mp
def GdM (m : Mp) : Prop := keysI m.1 = true ∧ flatM m.1
def GdE (q : ES) : Prop := GdM q.2.1 ∧ GdM q.2.2
theorem flatM_upd {a : Int} {v : Value} {k : Nat} (hv : Ex.flat v = true) : ∀ {es : List MapEntry}, flatM es → flatM (updE a v k es)
  | [], _ => fun m hm => by
    have : m = { key := .int .i64 a, val := v, born := k } := by simpa [updE] using hm
    rw [this]; exact hv
  | e :: es, h => fun m hm => by
    have hm' : m ∈ (if a = keyI e then { e with key := .int .i64 a, val := v } :: es else e :: updE a v k es) := hm
    by_cases hk : a = keyI e
    · rw [if_pos hk] at hm'
      rcases List.mem_cons.1 hm' with rfl | hm'
      · exact hv
      · exact h m (List.mem_cons_of_mem _ hm')
    · rw [if_neg hk] at hm'
      rcases List.mem_cons.1 hm' with rfl | hm'
      · exact h _ (List.mem_cons_self ..)
      · exact flatM_upd hv (fun m hm => h m (List.mem_cons_of_mem _ hm)) m hm'
theorem keysI_flat {es : List MapEntry} {k : Int} {v : Value} {c : Nat} (h : flatM es) (hv : Ex.flat v = true) : flatM (updE k v c es) := flatM_upd hv h
theorem GdM.up {m : Mp} {k v : Int} (h : GdM m) : GdM (upM k v m) := ⟨keysI_upd h.1, keysI_flat h.2 rfl⟩
theorem GdM.inc {m : Mp} {k : Int} (h : GdM m) : GdM (incM k m) := h.up
section
variable (rs cy ds : List Value) (n lc ld : Nat) (x : Int)
def hA (rs cy ds : List Value) (m1 m2 : Mp) : List (CO × Bool) := [(.dead, false), (.dead, false), (.dead, false), (.cells rs 67 2 false, true), (.dead, false), (.dead, false), (.dead, false), (.dead, false), (.cells cy 69 4 false, true), (.cells ds 70 2 false, true), (.dead, false), (.dead, false), (.dead, false), (.map m1.1 m1.2, true), (.map m2.1 m2.2, true)]
def fA (n lc ld : Nat) (x : Int) : List (Nat × Value) := [(1, i x), (5, sl 3 0 n n), (7, sl 8 0 lc lc), (8, sl 9 0 ld ld), (10, mp 13), (11, mp 14)]
def ShA (l : List (Nat × Value)) (w ex : Nat) : Shape ES := ⟨340, fun q => ⟨fA n lc ld x ++ l ++ [(w, i q.1)], hA rs cy ds q.2.1 q.2.2⟩, fun k q => match k with
  | 0 => (.exit ex, ⟨fA n lc ld x, hA rs cy ds q.2.1 q.2.2⟩)
  | _ => (.ret, ⟨[(4, b_ false)], List.replicate 15 (.dead, false)⟩)⟩
def s10A (q : ES) : SS ES := .br (ltF q.1 n) (askS (bnd_ q.1 n n) <| askS (cP rs q.1) <| askS (keysI q.2.2.1) <| .next 16 (List.range 15) (wrapF .i64 (q.1 + 1), q.2.1, upM (pA rs q.1.toNat) (pB rs q.1.toNat) q.2.2)) (.done 15 (List.range 15) 0)
def s23A (q : ES) : SS ES := .br (ltF q.1 ld) (askS (bnd_ q.1 ld ld) <| askS (cP ds q.1) <| askS (okM q.2.1) <| askS (keysI q.2.1.1) <| askS (okM q.2.2) <| .br (!eqF (mapIV q.2.2.1 (pA ds q.1.toNat)) (pB ds q.1.toNat)) (.done 16 (List.range 15) 1)
  (.next 16 (List.range 15) (wrapF .i64 (q.1 + 1), incM (pA ds q.1.toNat) q.2.1, q.2.2))) (.done 15 (List.range 15) 0)
def s30A (q : ES) : SS ES := .br (ltF q.1 n) (askS (bnd_ q.1 n n) <| askS (cP rs q.1) <| askS (okM q.2.1) <| .br (!eqF (mapIV q.2.1.1 (pA rs q.1.toNat)) 1) (.done 16 (List.range 15) 1) (.next 16 (List.range 15) (wrapF .i64 (q.1 + 1), q.2.1, q.2.2))) (.done 15 (List.range 15) 0)
def s15A (q : ES) : SS ES := .br (ltF q.1 lc) (askS (bnd_ q.1 lc lc) <| askS (cF cy q.1) <| askS (okM q.2.1) <| askS (keysI q.2.1.1) <| askS (okM (incM (f_ cy q.1.toNat 0) q.2.1)) <| askS (keysI (incM (f_ cy q.1.toNat 0) q.2.1).1) <| askS (okM q.2.2) <| askS (okM q.2.2) <|
  .br (!eqF (mnI (mapIV q.2.2.1 (f_ cy q.1.toNat 0)) (mapIV q.2.2.1 (f_ cy q.1.toNat 1))) (f_ cy q.1.toNat 2)) (.done 16 (List.range 15) 1) <| askS (okM q.2.2) <| askS (okM q.2.2) <|
  .br (!eqF (mxI (mapIV q.2.2.1 (f_ cy q.1.toNat 0)) (mapIV q.2.2.1 (f_ cy q.1.toNat 1))) (f_ cy q.1.toNat 3)) (.done 16 (List.range 15) 1)
  (.next 16 (List.range 15) (wrapF .i64 (q.1 + 1), incM (f_ cy q.1.toNat 1) (incM (f_ cy q.1.toNat 0) q.2.1), q.2.2))) (.done 15 (List.range 15) 0)
end
section
variable {rs cy ds : List Value} {n lc ld : Nat} {x : Int}
theorem hA_flat (g1 : rs.all Ex.flat = true) (g2 : cy.all Ex.flat = true) (g3 : ds.all Ex.flat = true) {m1 m2 : Mp} (q : GdM m1 ∧ GdM m2) : ∀ o, (o, true) ∈ hA rs cy ds m1 m2 → FlatO o := by
  intro o ho
  simp [hA] at ho
  rcases ho with rfl | rfl | rfl | rfl | rfl
  · exact fun x hx => List.all_eq_true.1 g1 x hx
  · exact fun x hx => List.all_eq_true.1 g2 x hx
  · exact fun x hx => List.all_eq_true.1 g3 x hx
  · exact q.1.2
  · exact q.2.2
theorem good10A : ∀ q q', GdE q → (s10A rs n q).sel = some (.inl q') → GdE q' := by
  intro q q' hg h
  rcases br_or' h with h | h
  · have h := ask_or' (ask_or' (ask_or' h)); cases h; exact ⟨hg.1, hg.2.up⟩
  · cases h
theorem good23A : ∀ q q', GdE q → (s23A ds ld q).sel = some (.inl q') → GdE q' := by
  intro q q' hg h
  rcases br_or' h with h | h
  · rcases br_or' (ask_or' (ask_or' (ask_or' (ask_or' (ask_or' h))))) with h | h
    · cases h
    · cases h; exact ⟨hg.1.inc, hg.2⟩
  · cases h
theorem good30A : ∀ q q', GdE q → (s30A rs n q).sel = some (.inl q') → GdE q' := by
  intro q q' hg h
  rcases br_or' h with h | h
  · rcases br_or' (ask_or' (ask_or' (ask_or' h))) with h | h
    · cases h
    · cases h; exact hg
  · cases h
theorem good15A : ∀ q q', GdE q → (s15A cy lc q).sel = some (.inl q') → GdE q' := by
  intro q q' hg h
  rcases br_or' h with h | h
  · rcases br_or' (ask_or' (ask_or' (ask_or' (ask_or' (ask_or' (ask_or' (ask_or' (ask_or' h)))))))) with h | h
    · cases h
    · rcases br_or' (ask_or' (ask_or' h)) with h | h
      · cases h
      · cases h; exact ⟨hg.1.inc.inc, hg.2⟩
  · cases h
theorem L10A (g1 : rs.all Ex.flat = true) (g2 : cy.all Ex.flat = true) (g3 : ds.all Ex.flat = true) : Loop1 Try.prog 2 6 (BE6 10) (ShA rs cy ds n lc ld x [(94, sl 3 0 n n), (95, i n)] 96 0) 15 (s10A rs n) GdE :=
  .mk' (C := fun _ => CE6) (n := 60) (fun _ _ => tsZ3) (fun _ _ => .none) (fun q ro _ => by kernel_rfl) (fun q ro _ => by kernel_rfl) (fun q => by kernel_rfl) good10A
    (fun _ hq => hA_flat g1 g2 g3 hq) (fun q k hq _ => by
      match k with
      | 0 => exact ⟨hA_flat g1 g2 g3 hq, fun h => by cases h⟩
      | k + 1 => exact ⟨fun _ ho => (by cases (List.mem_replicate.1 ho).2), fun h => by cases h⟩)
theorem L23A (g1 : rs.all Ex.flat = true) (g2 : cy.all Ex.flat = true) (g3 : ds.all Ex.flat = true) : Loop1 Try.prog 2 6 (BE6 23) (ShA rs cy ds n lc ld x [(149, sl 9 0 ld ld), (150, i ld)] 151 4) 15 (s23A ds ld) GdE :=
  .mk' (C := fun _ => CE6) (n := 60) (fun _ _ => tsZ3) (fun _ _ => .none) (fun q ro _ => by kernel_rfl) (fun q ro _ => by kernel_rfl) (fun q => by kernel_rfl) good23A
    (fun _ hq => hA_flat g1 g2 g3 hq) (fun q k hq _ => by
      match k with
      | 0 => exact ⟨hA_flat g1 g2 g3 hq, fun h => by cases h⟩
      | k + 1 => exact ⟨fun _ ho => (by cases (List.mem_replicate.1 ho).2), fun h => by cases h⟩)
theorem L30A (g1 : rs.all Ex.flat = true) (g2 : cy.all Ex.flat = true) (g3 : ds.all Ex.flat = true) : Loop1 Try.prog 2 6 (BE6 30) (ShA rs cy ds n lc ld x [(168, sl 3 0 n n), (169, i n)] 170 6) 15 (s30A rs n) GdE :=
  .mk' (C := fun _ => CE6) (n := 60) (fun _ _ => tsZ3) (fun _ _ => .none) (fun q ro _ => by kernel_rfl) (fun q ro _ => by kernel_rfl) (fun q => by kernel_rfl) good30A
    (fun _ hq => hA_flat g1 g2 g3 hq) (fun q k hq _ => by
      match k with
      | 0 => exact ⟨hA_flat g1 g2 g3 hq, fun h => by cases h⟩
      | k + 1 => exact ⟨fun _ ho => (by cases (List.mem_replicate.1 ho).2), fun h => by cases h⟩)
theorem L15A (g1 : rs.all Ex.flat = true) (g2 : cy.all Ex.flat = true) (g3 : ds.all Ex.flat = true) : Loop1 Try.prog 2 6 (BE6 15) (ShA rs cy ds n lc ld x [(106, sl 8 0 lc lc), (107, i lc)] 108 2) 15 (s15A cy lc) GdE :=
  .mk' (C := fun _ => CE6) (n := 60) (fun _ _ => tsZ3) (fun _ _ => .none) (fun q ro _ => by kernel_rfl) (fun q ro _ => by kernel_rfl) (fun q => by kernel_rfl) good15A
    (fun _ hq => hA_flat g1 g2 g3 hq) (fun q k hq _ => by
      match k with
      | 0 => exact ⟨hA_flat g1 g2 g3 hq, fun h => by cases h⟩
      | k + 1 => exact ⟨fun _ ho => (by cases (List.mem_replicate.1 ho).2), fun h => by cases h⟩)
end
section
variable (rs cy ds : List Value) (n lc ld : Nat) (x : Int)
def hN (rs _cy ds : List Value) (m1 m2 : Mp) : List (CO × Bool) := [(.dead, false), (.dead, false), (.dead, false), (.cells rs 67 2 false, true), (.dead, false), (.dead, false), (.dead, false), (.cells ds 70 2 false, true), (.dead, false), (.dead, false), (.map m1.1 m1.2, true), (.map m2.1 m2.2, true)]
def fN (n _lc ld : Nat) (x : Int) : List (Nat × Value) := [(1, i x), (5, sl 3 0 n n), (7, .slice none 0 0), (8, sl 7 0 ld ld), (10, mp 10), (11, mp 11)]
def ShN (l : List (Nat × Value)) (w ex : Nat) : Shape ES := ⟨340, fun q => ⟨fN n lc ld x ++ l ++ [(w, i q.1)], hN rs cy ds q.2.1 q.2.2⟩, fun k q => match k with
  | 0 => (.exit ex, ⟨fN n lc ld x, hN rs cy ds q.2.1 q.2.2⟩)
  | _ => (.ret, ⟨[(4, b_ false)], List.replicate 12 (.dead, false)⟩)⟩
def s10N (q : ES) : SS ES := .br (ltF q.1 n) (askS (bnd_ q.1 n n) <| askS (cP rs q.1) <| askS (keysI q.2.2.1) <| .next 13 (List.range 12) (wrapF .i64 (q.1 + 1), q.2.1, upM (pA rs q.1.toNat) (pB rs q.1.toNat) q.2.2)) (.done 12 (List.range 12) 0)
def s23N (q : ES) : SS ES := .br (ltF q.1 ld) (askS (bnd_ q.1 ld ld) <| askS (cP ds q.1) <| askS (okM q.2.1) <| askS (keysI q.2.1.1) <| askS (okM q.2.2) <| .br (!eqF (mapIV q.2.2.1 (pA ds q.1.toNat)) (pB ds q.1.toNat)) (.done 13 (List.range 12) 1)
  (.next 13 (List.range 12) (wrapF .i64 (q.1 + 1), incM (pA ds q.1.toNat) q.2.1, q.2.2))) (.done 12 (List.range 12) 0)
def s30N (q : ES) : SS ES := .br (ltF q.1 n) (askS (bnd_ q.1 n n) <| askS (cP rs q.1) <| askS (okM q.2.1) <| .br (!eqF (mapIV q.2.1.1 (pA rs q.1.toNat)) 1) (.done 13 (List.range 12) 1) (.next 13 (List.range 12) (wrapF .i64 (q.1 + 1), q.2.1, q.2.2))) (.done 12 (List.range 12) 0)
end
section
variable {rs cy ds : List Value} {n lc ld : Nat} {x : Int}
theorem hN_flat (g1 : rs.all Ex.flat = true) (_g2 : cy.all Ex.flat = true) (g3 : ds.all Ex.flat = true) {m1 m2 : Mp} (q : GdM m1 ∧ GdM m2) : ∀ o, (o, true) ∈ hN rs cy ds m1 m2 → FlatO o := by
  intro o ho
  simp [hN] at ho
  rcases ho with rfl | rfl | rfl | rfl
  · exact fun x hx => List.all_eq_true.1 g1 x hx
  · exact fun x hx => List.all_eq_true.1 g3 x hx
  · exact q.1.2
  · exact q.2.2
theorem good10N : ∀ q q', GdE q → (s10N rs n q).sel = some (.inl q') → GdE q' := by
  intro q q' hg h
  rcases br_or' h with h | h
  · have h := ask_or' (ask_or' (ask_or' h)); cases h; exact ⟨hg.1, hg.2.up⟩
  · cases h
theorem good23N : ∀ q q', GdE q → (s23N ds ld q).sel = some (.inl q') → GdE q' := by
  intro q q' hg h
  rcases br_or' h with h | h
  · rcases br_or' (ask_or' (ask_or' (ask_or' (ask_or' (ask_or' h))))) with h | h
    · cases h
    · cases h; exact ⟨hg.1.inc, hg.2⟩
  · cases h
theorem good30N : ∀ q q', GdE q → (s30N rs n q).sel = some (.inl q') → GdE q' := by
  intro q q' hg h
  rcases br_or' h with h | h
  · rcases br_or' (ask_or' (ask_or' (ask_or' h))) with h | h
    · cases h
    · cases h; exact hg
  · cases h
theorem L10N (g1 : rs.all Ex.flat = true) (g2 : cy.all Ex.flat = true) (g3 : ds.all Ex.flat = true) : Loop1 Try.prog 2 6 (BE6 10) (ShN rs cy ds n lc ld x [(94, sl 3 0 n n), (95, i n)] 96 0) 12 (s10N rs n) GdE :=
  .mk' (C := fun _ => CE6) (n := 60) (fun _ _ => tsZ3) (fun _ _ => .none) (fun q ro _ => by kernel_rfl) (fun q ro _ => by kernel_rfl) (fun q => by kernel_rfl) good10N
    (fun _ hq => hN_flat g1 g2 g3 hq) (fun q k hq _ => by
      match k with
      | 0 => exact ⟨hN_flat g1 g2 g3 hq, fun h => by cases h⟩
      | k + 1 => exact ⟨fun _ ho => (by cases (List.mem_replicate.1 ho).2), fun h => by cases h⟩)
theorem L23N (g1 : rs.all Ex.flat = true) (g2 : cy.all Ex.flat = true) (g3 : ds.all Ex.flat = true) : Loop1 Try.prog 2 6 (BE6 23) (ShN rs cy ds n lc ld x [(149, sl 7 0 ld ld), (150, i ld)] 151 4) 12 (s23N ds ld) GdE :=
  .mk' (C := fun _ => CE6) (n := 60) (fun _ _ => tsZ3) (fun _ _ => .none) (fun q ro _ => by kernel_rfl) (fun q ro _ => by kernel_rfl) (fun q => by kernel_rfl) good23N
    (fun _ hq => hN_flat g1 g2 g3 hq) (fun q k hq _ => by
      match k with
      | 0 => exact ⟨hN_flat g1 g2 g3 hq, fun h => by cases h⟩
      | k + 1 => exact ⟨fun _ ho => (by cases (List.mem_replicate.1 ho).2), fun h => by cases h⟩)
theorem L30N (g1 : rs.all Ex.flat = true) (g2 : cy.all Ex.flat = true) (g3 : ds.all Ex.flat = true) : Loop1 Try.prog 2 6 (BE6 30) (ShN rs cy ds n lc ld x [(168, sl 3 0 n n), (169, i n)] 170 6) 12 (s30N rs n) GdE :=
  .mk' (C := fun _ => CE6) (n := 60) (fun _ _ => tsZ3) (fun _ _ => .none) (fun q ro _ => by kernel_rfl) (fun q ro _ => by kernel_rfl) (fun q => by kernel_rfl) good30N
    (fun _ hq => hN_flat g1 g2 g3 hq) (fun q k hq _ => by
      match k with
      | 0 => exact ⟨hN_flat g1 g2 g3 hq, fun h => by cases h⟩
      | k + 1 => exact ⟨fun _ ho => (by cases (List.mem_replicate.1 ho).2), fun h => by cases h⟩)
end
end Go.Proofs.Ytphadgdlknhbnaa.Ways
set_option maxRecDepth 10000
noncomputable section
namespace Go.Proofs.Ytphadgdlknhbnaa.Ways
open Go Go.Ex Go.RowKit Go.Turn
noncomputable def CE7 : Cfg := ⟨TZ3, at_ [(6, 204), (6, 210), (6, 215), (6, 238), (6, 247), (6, 252), (6, 310), (6, 338)] .bool no_, on_ [(6, 205), (6, 206), (6, 239), (6, 240), (6, 260), (6, 266), (6, 273), (6, 279), (6, 288), (6, 294), (6, 301), (6, 307), (6, 318), (6, 323), (6, 329), (6, 335), (6, 258), (6, 264), (6, 271), (6, 277), (6, 286), (6, 292), (6, 299), (6, 305), (6, 316), (6, 321), (6, 327), (6, 333)], noL⟩
def hqE (K cp dp : Nat) (rs cy ds : List Value) : List (CO × Bool) := (List.range K).map fun k => cond (Nat.beq k 3) (.cells rs 67 2 false, true) (cond (Nat.beq k cp && !Nat.beq cp 0) (.cells cy 69 4 false, true) (cond (Nat.beq k dp) (.cells ds 70 2 false, true) (.dead, false)))
theorem hqE_flat {K cp dp : Nat} {rs cy ds : List Value} (g1 : rs.all Ex.flat = true) (g2 : cy.all Ex.flat = true) (g3 : ds.all Ex.flat = true) : ∀ o, (o, true) ∈ hqE K cp dp rs cy ds → FlatO o := by
  intro o ho
  obtain ⟨k, _, hk⟩ := List.mem_map.1 ho
  cases h1 : Nat.beq k 3 with
  | true => rw [h1] at hk; cases hk; exact fun x hx => List.all_eq_true.1 g1 x hx
  | false =>
    rw [h1] at hk
    cases h2 : (Nat.beq k cp && !Nat.beq cp 0) with
    | true => rw [h2] at hk; cases hk; exact fun x hx => List.all_eq_true.1 g2 x hx
    | false =>
      rw [h2] at hk
      cases h3 : Nat.beq k dp with
      | true => rw [h3] at hk; cases hk; exact fun x hx => List.all_eq_true.1 g3 x hx
      | false => rw [h3] at hk; cases hk
def fqE (cp dp : Nat) (n lc ld : Nat) : List (Nat × Value) := [(5, sl 3 0 n n), (7, cond (Nat.beq cp 0) (.slice none 0 0) (sl cp 0 lc lc)), (8, sl dp 0 ld ld)]
section
variable (rs cy ds : List Value) (n lc ld : Nat) (x : Int)
def SE40 (K cp dp : Nat) (nn : Int) : Shape (Int × Int) := ⟨340, fun q => ⟨fqE cp dp n lc ld ++ [(1, i x), (20, i nn), (201, sl cp 0 lc lc), (202, i lc), (203, i q.1), (22, i q.2)], hqE K cp dp rs cy ds⟩, fun _ q => (.exit 8, ⟨fqE cp dp n lc ld ++ [(20, i nn), (22, i q.2)], hqE K cp dp rs cy ds⟩)⟩
def sE40 (K : Nat) (q : Int × Int) : SS (Int × Int) := .br (ltF q.1 lc) (askS (bnd_ q.1 lc lc) <| askS (cF cy q.1) <| .br (leF (f_ cy q.1.toNat 2) x) (.br (ltF x (f_ cy q.1.toNat 3)) (.next (K + 1) (List.range K) (wrapF .i64 (q.1 + 1), wrapF .i64 (q.2 + 1))) (.next (K + 1) (List.range K) (wrapF .i64 (q.1 + 1), q.2))) (.next (K + 1) (List.range K) (wrapF .i64 (q.1 + 1), q.2))) (.done K (List.range K) 0)
def SE52 (K cp dp : Nat) (m : Int) : Shape Int := ⟨340, fun j => ⟨fqE cp dp n lc ld ++ [(26, i m), (235, sl cp 0 lc lc), (236, i lc), (237, i j)], hqE K cp dp rs cy ds⟩, fun k _ => match k with
  | 0 => (.exit 10, ⟨fqE cp dp n lc ld, hqE K cp dp rs cy ds⟩)
  | _ => (.ret, ⟨[(4, b_ false)], hqE K cp dp rs cy ds⟩)⟩
def sE52 (K : Nat) (m : Int) (j : Int) : SS Int := .br (ltF j lc) (askS (bnd_ j lc lc) <| askS (cF cy j) <| .br (ltF m (wrapF .i64 (f_ cy j.toNat 3 - f_ cy j.toNat 2))) (.done (K + 1) (List.range K) 1) (.next (K + 1) (List.range K) (wrapF .i64 (j + 1)))) (.done K (List.range K) 0)
def SE58 (K cp dp : Nat) : Shape Int := ⟨340, fun j => ⟨[(8, sl dp 0 ld ld), (30, i j)], hqE K cp dp rs cy ds⟩, fun k _ => match k with
  | 0 => (.exit 12, ⟨[], hqE K cp dp rs cy ds⟩)
  | _ => (.ret, ⟨[(4, b_ false)], hqE K cp dp rs cy ds⟩)⟩
def aDE (w : Int) (u : SS Int) : SS Int := askS (bnd_ w ld ld) (askS (cB2 ds w) u)
def dDE (v w : Int) : Int := mxI (wrapF .i64 (pB ds v.toNat - pB ds w.toNat)) (wrapF .i64 (pB ds w.toNat - pB ds v.toNat))
def sE58 (K : Nat) (j : Int) : SS Int := .br (ltF j ld) (aDE ds ld (wrapF .i64 (j - 2)) <| aDE ds ld (wrapF .i64 (j - 1)) <| aDE ds ld (wrapF .i64 (j - 1)) <| aDE ds ld (wrapF .i64 (j - 2)) <|
  aDE ds ld (wrapF .i64 (j - 3)) <| aDE ds ld (wrapF .i64 (j - 2)) <| aDE ds ld (wrapF .i64 (j - 2)) <| aDE ds ld (wrapF .i64 (j - 3)) <| .br (leF (dDE ds (wrapF .i64 (j - 2)) (wrapF .i64 (j - 1))) (dDE ds (wrapF .i64 (j - 3)) (wrapF .i64 (j - 2))))
  (aDE ds ld (wrapF .i64 (j - 1)) <| aDE ds ld j <| aDE ds ld j <| aDE ds ld (wrapF .i64 (j - 1)) <| .br (leF (dDE ds (wrapF .i64 (j - 2)) (wrapF .i64 (j - 1))) (dDE ds (wrapF .i64 (j - 1)) j)) (.done K (List.range K) 1) (.next K (List.range K) (wrapF .i64 (j + 1))))
  (.next K (List.range K) (wrapF .i64 (j + 1)))) (.done K (List.range K) 0)
end
section
variable {rs cy ds : List Value} {n lc ld : Nat} {x : Int}
theorem LE40 {nn : Int} (g1 : rs.all Ex.flat = true) (g2 : cy.all Ex.flat = true) (g3 : ds.all Ex.flat = true) : Loop1 Try.prog 2 6 (BE6 40) (SE40 rs cy ds n lc ld x 18 8 9 nn) 18 (sE40 cy lc x 18) (fun _ => True) :=
  .mk' (C := fun _ => CE7) (n := 60) (fun _ _ => tsZ3) (fun _ _ => .none) (fun q ro _ => by kernel_rfl) (fun q ro _ => by kernel_rfl) (fun q => by kernel_rfl) (fun _ _ _ _ => trivial)
    (fun _ _ => hqE_flat g1 g2 g3) (fun _ _ _ _ => ⟨hqE_flat g1 g2 g3, fun h => by cases h⟩)
theorem LE52 {m : Int} (g1 : rs.all Ex.flat = true) (g2 : cy.all Ex.flat = true) (g3 : ds.all Ex.flat = true) : Loop1 Try.prog 2 6 (BE6 52) (SE52 rs cy ds n lc ld 20 8 9 m) 20 (sE52 cy lc 20 m) (fun _ => True) :=
  .mk' (C := fun _ => CE7) (n := 60) (fun _ _ => tsZ3) (fun _ _ => .none) (fun q ro _ => by kernel_rfl) (fun q ro _ => by kernel_rfl) (fun q => by kernel_rfl) (fun _ _ _ _ => trivial)
    (fun _ _ => hqE_flat g1 g2 g3) (fun q k _ _ => by
      match k with
      | 0 => exact ⟨hqE_flat g1 g2 g3, fun h => by cases h⟩
      | k + 1 => exact ⟨hqE_flat g1 g2 g3, fun h => by cases h⟩)
theorem LE58_18 (g1 : rs.all Ex.flat = true) (g2 : cy.all Ex.flat = true) (g3 : ds.all Ex.flat = true) : Loop1 Try.prog 2 6 (BE6 58) (SE58 rs cy ds ld 18 8 9) 18 (sE58 ds ld 18) (fun _ => True) :=
  .mk' (C := fun _ => CE7) (n := 60) (fun _ _ => tsZ3) (fun _ _ => .none) (fun q ro _ => by kernel_rfl) (fun q ro _ => by kernel_rfl) (fun q => by kernel_rfl) (fun _ _ _ _ => trivial)
    (fun _ _ => hqE_flat g1 g2 g3) (fun q k _ _ => by
      match k with
      | 0 => exact ⟨hqE_flat g1 g2 g3, fun h => by cases h⟩
      | k + 1 => exact ⟨hqE_flat g1 g2 g3, fun h => by cases h⟩)
theorem LE58_20 (g1 : rs.all Ex.flat = true) (g2 : cy.all Ex.flat = true) (g3 : ds.all Ex.flat = true) : Loop1 Try.prog 2 6 (BE6 58) (SE58 rs cy ds ld 20 8 9) 20 (sE58 ds ld 20) (fun _ => True) :=
  .mk' (C := fun _ => CE7) (n := 60) (fun _ _ => tsZ3) (fun _ _ => .none) (fun q ro _ => by kernel_rfl) (fun q ro _ => by kernel_rfl) (fun q => by kernel_rfl) (fun _ _ _ _ => trivial)
    (fun _ _ => hqE_flat g1 g2 g3) (fun q k _ _ => by
      match k with
      | 0 => exact ⟨hqE_flat g1 g2 g3, fun h => by cases h⟩
      | k + 1 => exact ⟨hqE_flat g1 g2 g3, fun h => by cases h⟩)
theorem LE58_15 (g1 : rs.all Ex.flat = true) (g2 : cy.all Ex.flat = true) (g3 : ds.all Ex.flat = true) : Loop1 Try.prog 2 6 (BE6 58) (SE58 rs cy ds ld 15 0 7) 15 (sE58 ds ld 15) (fun _ => True) :=
  .mk' (C := fun _ => CE7) (n := 60) (fun _ _ => tsZ3) (fun _ _ => .none) (fun q ro _ => by kernel_rfl) (fun q ro _ => by kernel_rfl) (fun q => by kernel_rfl) (fun _ _ _ _ => trivial)
    (fun _ _ => hqE_flat g1 g2 g3) (fun q k _ _ => by
      match k with
      | 0 => exact ⟨hqE_flat g1 g2 g3, fun h => by cases h⟩
      | k + 1 => exact ⟨hqE_flat g1 g2 g3, fun h => by cases h⟩)
theorem LE58_17 (g1 : rs.all Ex.flat = true) (g2 : cy.all Ex.flat = true) (g3 : ds.all Ex.flat = true) : Loop1 Try.prog 2 6 (BE6 58) (SE58 rs cy ds ld 17 0 7) 17 (sE58 ds ld 17) (fun _ => True) :=
  .mk' (C := fun _ => CE7) (n := 60) (fun _ _ => tsZ3) (fun _ _ => .none) (fun q ro _ => by kernel_rfl) (fun q ro _ => by kernel_rfl) (fun q => by kernel_rfl) (fun _ _ _ _ => trivial)
    (fun _ _ => hqE_flat g1 g2 g3) (fun q k _ _ => by
      match k with
      | 0 => exact ⟨hqE_flat g1 g2 g3, fun h => by cases h⟩
      | k + 1 => exact ⟨hqE_flat g1 g2 g3, fun h => by cases h⟩)
end
end Go.Proofs.Ytphadgdlknhbnaa.Ways
