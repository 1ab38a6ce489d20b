import Derived.Test.YteemponkignnhaaLf3
set_option maxRecDepth 10000
noncomputable section
namespace Go.Proofs.Yteemponkignnhaa.Ways
open Go Go.Ex Go.RowKit Go.Turn
def ckE (x : Int) : Int := rgE x (-999999999) 999999999
theorem p64 (x : Int) : Pure Try.prog Hd 68 [i x] (i (ckE x)) :=
  pure_run (C := ⟨TX6, no_, off_, noL⟩) (G := 1) 30 (.leaf (i (ckE x))) tsX6 .none (by decide) hd_len rfl (by kernel_rfl) (by kernel_rfl) rfl
def szC (lo hi : Int) : Int := wrapF .i64 (hi - lo)
theorem p65 (a b c d : Int) : Pure Try.prog Hd 69 [ag [i a, i b, i c, i d]] (i (szC c d)) :=
  pure_run (C := ⟨noT, no_, off_, noL⟩) (G := 1) 30 (.leaf (i (szC c d))) .none .none (by decide) hd_len rfl (by kernel_rfl) (by kernel_rfl) rfl
def s64 : List Value → Option Value
  | [.int .i64 x] => some (i (ckE x))
  | _ => none
def s65 : List Value → Option Value
  | [.agg ⟨[.int .i64 _, .int .i64 _, .int .i64 c, .int .i64 d]⟩] => some (i (szC c d))
  | _ => none
noncomputable def TX9 : Tb := ext (ext TX6 68 (pureE s64 [] Hd)) 69 (pureE s65 [] Hd)
theorem tsX9 {G : Nat} : TSound Try.prog G TX9 := by
  refine TSound.pure hd_vars (TSound.pure hd_vars tsX6 fun args v h => ?_) fun args v h => ?_
  · unfold s64 at h
    split at h
    · cases h; exact p64 _
    · cases h
  · unfold s65 at h
    split at h
    · cases h; exact p65 _ _ _ _
    · cases h
noncomputable def OV10 : Array Oper := regC 10 60 (Try.f29.body.getD .skip)
noncomputable def CV10 : Cfg := ⟨noT, no_, on_ [(29, 100039), (29, 100042)], noL⟩
def mp (b : Nat) : Value := .map (some b)
def wrM (a : Int) (k : Nat) (es : List MapEntry) : List MapEntry := updE a (.bool true) k es
section
variable (cs cy : List Value) (n c lc : Nat) (x j : Int) (t s : Nat) (ex : Bool)
def hoV : List (CO × Bool) := [(.dead, false), (.cells cs t s ex, true), (.dead, false), (.cells cy 86 4 false, true), (.dead, false)]
def hpV (a b u v : Int) : List (CO × Bool) := [(.cells [mp 5] 114 1 true, false), (.cells [i a, i b, i u, i v] 86 1 true, true)]
def inV : List (Nat × Value) := [(0, sl 1 0 n c), (1, i x), (9, pt 6 0), (11, pt 7 0), (27, sl 3 0 lc lc), (28, i lc), (29, i j)]
def sV (es : List MapEntry) (k : Nat) (a b u v : Int) : SymS where
  live0 := inV n c lc x j
  S := [(37, 0, mp 5), (38, 1, pt 7 0), (39, 2, i a), (40, 3, mp 5), (41, 4, pt 7 1), (42, 5, i b)]
  hp0 := hoV cs cy t s ex
  T := hpV a b u v
  A := []
  A2 := [(99, .map es k, 6, .map (wrM a k es) (clkE a k es), 7, .map (wrM b (clkE a k es) (wrM a k es)) (clkE b (clkE a k es) (wrM a k es)))]
end
def cdV (es : List MapEntry) (k : Nat) (a : Int) (q : Nat) : List Bool := match q with
  | 6 => [keysI es]
  | 7 => [keysI (wrM a k es)]
  | _ => []
def rhoV (_ : Nat) : List Nat := List.range 8
def lenV (_ : Nat) : Nat := 8
def ansV (q : Nat) : List Bool := match q with
  | 6 => [true]
  | 7 => [true]
  | _ => []
theorem fixV (cs cy : List Value) (n c lc : Nat) (x j : Int) (t s : Nat) (ex : Bool) (es : List MapEntry) (k : Nat) (a b u v : Int) : ∀ B : List Bool, B.length = OV10.size → (List.range OV10.size).map (fun q => outV noW Try.prog 2 CV10 29 OV10 47 (sV cs cy n c lc x j t s ex es k a b u v) (forceN OV10.size (pre2 OV10) q B) q) = (List.range OV10.size).map fun q => (outV noW Try.prog 2 CV10 29 OV10 47 (sV cs cy n c lc x j t s ex es k a b u v) (forceN OV10.size (pre2 OV10) q B) q).fix
  | [x0, x1, x2, x3, x4, x5, x6, x7], _ => by kernel_rfl
theorem obsV_ (cs cy : List Value) (n c lc : Nat) (x j : Int) (t s : Nat) (ex : Bool) (es : List MapEntry) (k : Nat) (a b u v : Int) : ∀ B : List Bool, B.length = OV10.size → (List.range OV10.size).map (fun q => obsV noW Try.prog 2 CV10 29 OV10 47 (sV cs cy n c lc x j t s ex es k a b u v) rhoV ansV (forceN OV10.size (pre2 OV10) q B) q) = (List.range OV10.size).map fun q => expY 47 (sV cs cy n c lc x j t s ex es k a b u v) rhoV (cdV es k a) lenV (forceN OV10.size (pre2 OV10) q B) q
  | [x0, x1, x2, x3, x4, x5, x6, x7], _ => by kernel_rfl
def flatM (es : List MapEntry) : Prop := ∀ m ∈ es, Ex.flat m.val = true
theorem flatM_wr {a : Int} {k : Nat} : ∀ {es : List MapEntry}, flatM es → flatM (wrM a k es)
  | [], _ => fun m hm => by
    have : m = { key := .int .i64 a, val := .bool true, born := k } := by simpa [wrM, updE] using hm
    rw [this]; rfl
  | e :: es, h => fun m hm => by
    have hm' : m ∈ (if a = keyI e then { e with key := .int .i64 a, val := .bool true } :: es else e :: wrM a k es) := hm
    by_cases hk : a = keyI e
    · rw [if_pos hk] at hm'
      rcases List.mem_cons.1 hm' with rfl | hm'
      · rfl
      · exact h m (List.mem_cons_of_mem _ hm')
    · rw [if_neg hk] at hm'
      rcases List.mem_cons.1 hm' with rfl | hm'
      · exact h _ List.mem_cons_self
      · exact flatM_wr (fun x hx => h x (List.mem_cons_of_mem _ hx)) m hm'
section
variable {cs cy : List Value} {n c lc : Nat} {x j : Int} {t s : Nat} {ex : Bool}
theorem hoV_flat (h : cs.all Ex.flat = true) (h2 : cy.all Ex.flat = true) : ∀ o, (o, true) ∈ hoV cs cy t s ex → FlatO o := by
  intro o ho
  simp [hoV] at ho
  rcases ho with rfl | rfl
  · exact fun x hx => List.all_eq_true.1 h x hx
  · exact fun x hx => List.all_eq_true.1 h2 x hx
theorem ordV (g1 : cs.all Ex.flat = true) (g2 : cy.all Ex.flat = true) {es : List MapEntry} {k : Nat} {a b u v : Int} (h1 : keysI es = true) (h2 : flatM es) : Orders (selfA (qS noW)) Try.prog 2 OV10 8 (fun m => m < 2 ^ OV10.size ∧ GoodY OV10 (bitsL OV10.size m)) (fun m => absT (tmL 47 ((sV cs cy n c lc x j t s ex es k a b u v).live (bitsL OV10.size m)))) (fun m => heapL ((sV cs cy n c lc x j t s ex es k a b u v).hp (bitsL OV10.size m))) (2 ^ OV10.size - 1) :=
  sym_of2 (fixV cs cy n c lc x j t s ex es k a b u v) (obsV_ cs cy n c lc x j t s ex es k a b u v) (fun q => by
      unfold cdV ansV
      split
      · rw [h1]; rfl
      · rw [show keysI (wrM a k es) = true from keysI_upd h1]; rfl
      · rfl) (by kernel_rfl) (by kernel_rfl) (by kernel_rfl) (by kernel_rfl) (by kernel_rfl)
    (hoV_flat g1 g2)
    (fun _ hq => absurd hq List.not_mem_nil)
    (fun q hq => by
      simp only [sV, List.mem_cons, List.not_mem_nil, or_false] at hq
      subst hq
      exact ⟨h2, flatM_wr h2, flatM_wr (flatM_wr h2)⟩) (by kernel_rfl) (by kernel_rfl)
    (fun o ho => by
      simp [sV, hpV] at ho
      subst ho
      exact fun x hx => List.all_eq_true.1 (by rfl) x hx)
end
end Go.Proofs.Yteemponkignnhaa.Ways
set_option maxRecDepth 10000
noncomputable section
namespace Go.Proofs.Yteemponkignnhaa.Ways
open Go Go.Ex Go.RowKit Go.Turn
def nxM (es : List MapEntry) (k : Nat) (a b : Int) : List MapEntry := wrM b (clkE a k es) (wrM a k es)
def nxK (es : List MapEntry) (k : Nat) (a b : Int) : Nat := clkE b (clkE a k es) (wrM a k es)
section
variable (cs cy : List Value) (n c lc : Nat) (x j : Int) (t s : Nat) (ex : Bool) (es : List MapEntry) (k : Nat) (a b u v : Int)
def hiV : List (CO × Bool) := hoV cs cy t s ex ++ ((.map es k, true) :: hpV a b u v)
def tmV : TM := tmL 47 ((sV cs cy n c lc x j t s ex es k a b u v).live (List.replicate 8 true))
def hV : CH := heapL ((sV cs cy n c lc x j t s ex es k a b u v).hp (List.replicate 8 true))
theorem endV : bitsL OV10.size (2 ^ OV10.size - 1) = List.replicate 8 true := by kernel_rfl
theorem padV : heapL ((sV cs cy n c lc x j t s ex es k a b u v).hp (bitsL OV10.size 0)) = heapL ((hiV cs cy t s ex es k a b u v).map (·.1) ++ List.replicate 0 .dead) := by kernel_rfl
theorem zeroV : tmL 47 ((sV cs cy n c lc x j t s ex es k a b u v).live (bitsL OV10.size 0)) = tmL 47 (inV n c lc x j) := by kernel_rfl
noncomputable def LV (L : LTab) : LTab := regE L 29 10 47 8 OV10 (inV n c lc x j) (hiV cs cy t s ex es k a b u v) (.br (keysI es) (.leaf (.ex .normal (tmV cs cy n c lc x j t s ex es k a b u v) (hV cs cy n c lc x j t s ex es k a b u v) [])) .fail)
end
section
variable {cs cy : List Value} {n c lc : Nat} {x j : Int} {t s : Nat} {ex : Bool} {es : List MapEntry} {k : Nat} {a b u v : Int}
theorem hiV_flat (g1 : cs.all Ex.flat = true) (g2 : cy.all Ex.flat = true) (h2 : flatM es) : ∀ o, (o, true) ∈ hiV cs cy t s ex es k a b u v → FlatO o := by
  intro o ho
  rcases List.mem_append.1 ho with h | h
  · exact hoV_flat g1 g2 o h
  · rcases List.mem_cons.1 h with h | h
    · injection h with h _
      subst h
      exact h2
    · simp [hpV] at h
      subst h
      exact fun x hx => List.all_eq_true.1 (by rfl) x hx
theorem sndV (g1 : cs.all Ex.flat = true) (g2 : cy.all Ex.flat = true) (h1 : keysI es = true) (h2 : flatM es) (ro : Option Nat) {tm0 : Array Value} {H0 : CH} (hk : H0.length = 8) (hst : Restate 8 tm0 H0 (absT (tmL 47 (inV n c lc x j))) (heapL ((hiV cs cy t s ex es k a b u v).map (·.1)))) :
    Sound Try.prog 2 (.code (.region 10 OV10 true) ro tm0 H0 []) (.ex .normal (absT (tmV cs cy n c lc x j t s ex es k a b u v)) (hV cs cy n c lc x j t s ex es k a b u v) []) := by
  have ho := ordV (n := n) (c := c) (lc := lc) (x := x) (j := j) (t := t) (s := s) (ex := ex) (k := k) (a := a) (b := b) (u := u) (v := v) g1 g2 h1 h2
  have hp := padV cs cy n c lc x j t s ex es k a b u v
  have hz := zeroV cs cy n c lc x j t s ex es k a b u v
  have h0 := goodY_zero OV10
  unfold tmV hV
  rw [← endV]
  rw [← hz] at hst
  generalize sV cs cy n c lc x j t s ex es k a b u v = s at *
  generalize hiV cs cy t _ ex es k a b u v = hh at *
  rw [← hk] at hst ho
  exact orders_sound2 (tmS := fun m => absT (tmL 47 (s.live (bitsL OV10.size m)))) (HS := fun m => heapL (s.hp (bitsL OV10.size m))) (mF := 2 ^ OV10.size - 1) (qS_selfSound noW_sound) mixU ho (by rw [hk]; decide) h0 hp hst ro
theorem lsV {L : LTab} (hL : LSound Try.prog 2 L) (g1 : cs.all Ex.flat = true) (g2 : cy.all Ex.flat = true) (h2 : flatM es) : LSound Try.prog 2 (LV cs cy n c lc x j t s ex es k a b u v L) := by
  refine LSound.region hL (by kernel_rfl) (hiV_flat g1 g2 h2) fun r hr ro tm0 H0 hk hst => ?_
  cases h : keysI es with
  | false => rw [h] at hr; cases hr
  | true =>
    rw [h] at hr
    cases hr
    exact sndV g1 g2 h h2 ro hk hst
end
def pC (cy : List Value) (q j : Nat) : Int := intO cy[0 + j * 4 + q]?
def cC (cy : List Value) (j : Int) : Bool := areCells (repK 4 [.i .i64]) cy (0 + j.toNat * 4)
noncomputable def B27 : Code := bodyL Try.f29 7
section
variable (cs cy : List Value) (n c lc : Nat) (x : Int) (t s : Nat) (ex : Bool)
abbrev ST27 := Int × List MapEntry × Nat
def h27 (q : ST27) : List (CO × Bool) := hoV cs cy t s ex ++ [(.map q.2.1 q.2.2, true), (.cells [mp 5] 114 1 true, false)]
def S27 : Shape ST27 := ⟨47, fun q => ⟨[(0, sl 1 0 n c), (1, i x), (9, pt 6 0), (27, sl 3 0 lc lc), (28, i lc), (29, i q.1)], h27 cs cy t s ex q⟩, fun _ q => (.exit 0, ⟨[(0, sl 1 0 n c), (1, i x), (9, pt 6 0)], h27 cs cy t s ex q⟩)⟩
def st27 (q : ST27) : SS ST27 := .br (ltF q.1 lc) (askS (bnd_ q.1 lc lc) <| askS (cC cy q.1) <| .br (ltF (szC (pC cy 2 q.1.toNat) (pC cy 3 q.1.toNat)) x)
    (askS (keysI q.2.1) <| .next 8 (List.range 7) (wrapF .i64 (q.1 + 1), nxM q.2.1 q.2.2 (pC cy 0 q.1.toNat) (pC cy 1 q.1.toNat), nxK q.2.1 q.2.2 (pC cy 0 q.1.toNat) (pC cy 1 q.1.toNat)))
    (.next 8 (List.range 7) (wrapF .i64 (q.1 + 1), q.2.1, q.2.2))) (.done 7 (List.range 7) 0)
noncomputable def C27 (q : ST27) : Cfg := ⟨TX9, at_ [(29, 30), (29, 36)] .bool no_, on_ [(29, 31), (29, 32)], LV cs cy n c lc x q.1 t s ex q.2.1 q.2.2 (pC cy 0 q.1.toNat) (pC cy 1 q.1.toNat) (pC cy 2 q.1.toNat) (pC cy 3 q.1.toNat) noL⟩
end
def Gd27 (q : ST27) : Prop := flatM q.2.1
section
variable {cs cy : List Value} {n c lc : Nat} {x : Int} {t s : Nat} {ex : Bool}
theorem h27_flat (g1 : cs.all Ex.flat = true) (g2 : cy.all Ex.flat = true) {q : ST27} (hq : Gd27 q) : ∀ o, (o, true) ∈ h27 cs cy t s ex q → FlatO o := by
  intro o ho
  rcases List.mem_append.1 ho with h | h
  · exact hoV_flat g1 g2 o h
  · simp at h
    subst h
    exact hq
theorem good27 : ∀ q q', Gd27 q → (st27 cy lc x q).sel = some (.inl q') → Gd27 q' := by
  intro q q' hg h
  rcases br_or' h with h | h
  · rcases br_or' (ask_or' (ask_or' h)) with h | h
    · have h := ask_or' h
      cases h
      exact flatM_wr (flatM_wr hg)
    · cases h; exact hg
  · cases h
theorem L27 (g1 : cs.all Ex.flat = true) (g2 : cy.all Ex.flat = true) : Loop1 Try.prog 2 29 B27 (S27 cs cy n c lc x t s ex) 7 (st27 cy lc x) Gd27 :=
  .mk' (C := C27 cs cy n c lc x t s ex) (n := 60) (fun _ _ => tsX9) (fun _ hq => lsV .none g1 g2 hq) (fun q ro _ => by kernel_rfl) (fun q ro _ => by kernel_rfl) (fun q => by kernel_rfl) good27 (fun _ hq => h27_flat g1 g2 hq)
    (fun _ _ hq _ => ⟨h27_flat g1 g2 hq, fun h => by cases h⟩)
end
end Go.Proofs.Yteemponkignnhaa.Ways
set_option maxRecDepth 10000
noncomputable section
namespace Go.Proofs.Yteemponkignnhaa.Ways
open Go Go.Ex Go.RowKit Go.Turn
noncomputable def B66 : Code := bodyL Try.f70 3
inductive KS where
  | z (j : Int)
  | m (j : Int) (l : Nat) (out : List Value)
def GdK : KS → Prop
  | .z _ => True
  | .m _ _ out => out.all Ex.flat = true
def kpB (es : List MapEntry) (cs : List Value) (j : Int) : Bool := !mapBV es (pA cs j.toNat)
noncomputable def CK66 : KS → Cfg
  | .z _ => ⟨TX9, at_ [(70, 11), (70, 16)] .bool no_, on_ [(70, 12), (70, 13), (71, 7)], noL⟩
  | .m _ _ _ => ⟨TX9, at_ [(70, 11), (70, 16)] .bool no_, on_ [(70, 12), (70, 13), (71, 7), (70, 20), (70, 300020)], noL⟩
section
variable (cs : List Value) (n c : Nat) (es : List MapEntry) (k : Nat) (t s : Nat) (ex : Bool)
def hz5 : List (CO × Bool) := [(.dead, false), (.cells cs t s ex, true), (.dead, false), (.dead, false), (.dead, false), (.map es k, true), (.cells [mp 5] 114 1 true, false)]
def hm5 (out : List Value) : List (CO × Bool) := [(.dead, false), (.cells cs t s ex, true), (.dead, false), (.dead, false), (.dead, false), (.map es k, true), (.cells [mp 5] 114 1 true, false), (.cells out 67 2 false, true)]
def S66_5 : Shape KS := ⟨23, fun q => match q with
  | .z j => ⟨[(1, fnc 71 [pt 6 0]), (8, sl 1 0 n c), (9, i n), (5, .slice none 0 0), (10, i j)], hz5 cs es k t s ex⟩
  | .m j l out => ⟨[(1, fnc 71 [pt 6 0]), (8, sl 1 0 n c), (9, i n), (5, sl 7 0 l l), (10, i j)], hm5 cs es k t s ex out⟩,
  fun _ q => match q with
  | .z _ => (.exit 0, ⟨[(5, .slice none 0 0)], hz5 cs es k t s ex⟩)
  | .m _ l out => (.exit 0, ⟨[(5, sl 7 0 l l)], hm5 cs es k t s ex out⟩)⟩
def st66_5 : KS → SS KS
  | .z j => .br (ltF j n) (askS (bnd_ j n c) <| askS (cP cs j) <| askS (keysI es && valsB es) <| .br (kpB es cs j) (.next 11 (List.range 7 ++ [10]) (.m (wrapF .i64 (j + 1)) 1 (el cs j))) (.next 9 (List.range 7) (.z (wrapF .i64 (j + 1))))) (.done 7 (List.range 7) 0)
  | .m j l out => .br (ltF j n) (askS (bnd_ j n c) <| askS (cP cs j) <| askS (keysI es && valsB es) <| .br (kpB es cs j) (askS (full2 l out) <| .next 12 (List.range 7 ++ [11]) (.m (wrapF .i64 (j + 1)) (l + 1) (out ++ el cs j))) (.next 10 (List.range 8) (.m (wrapF .i64 (j + 1)) l out))) (.done 8 (List.range 8) 0)
end
section
variable {cs : List Value} {n c : Nat} {es : List MapEntry} {k : Nat} {t s : Nat} {ex : Bool}
theorem hz5_flat (g1 : cs.all Ex.flat = true) (g2 : flatM es) : ∀ o, (o, true) ∈ hz5 cs es k t s ex → FlatO o := by
  intro o ho
  simp [hz5] at ho
  rcases ho with rfl | rfl
  · exact fun x hx => List.all_eq_true.1 g1 x hx
  · exact g2
theorem hm5_flat (g1 : cs.all Ex.flat = true) (g2 : flatM es) {out : List Value} (g3 : out.all Ex.flat = true) : ∀ o, (o, true) ∈ hm5 cs es k t s ex out → FlatO o := by
  intro o ho
  simp [hm5] at ho
  rcases ho with rfl | rfl | rfl
  · exact fun x hx => List.all_eq_true.1 g1 x hx
  · exact g2
  · exact fun x hx => List.all_eq_true.1 g3 x hx
theorem good66_5 : ∀ q q', GdK q → (st66_5 cs n c es q).sel = some (.inl q') → GdK q' := by
  intro q q' hg h
  cases q with
  | z j =>
    rcases br_or' h with h | h
    · rcases br_or' (ask_or' (ask_or' (ask_or' h))) with h | h <;> (cases h; first | rfl | trivial)
    · cases h
  | m j l out =>
    rcases br_or' h with h | h
    · rcases br_or' (ask_or' (ask_or' (ask_or' h))) with h | h
      · have h := ask_or' h; cases h; exact app_flat hg rfl
      · cases h; exact hg
    · cases h
theorem L66_5 (g1 : cs.all Ex.flat = true) (g2 : flatM es) : Loop1 Try.prog 2 70 B66 (S66_5 cs n c es k t s ex) 7 (st66_5 cs n c es) GdK :=
  .mk' (C := CK66) (n := 60) (fun q _ => by cases q <;> exact tsX9) (fun q _ => by cases q <;> exact .none) (fun q ro _ => by cases q <;> kernel_rfl) (fun q ro _ => by cases q <;> kernel_rfl) (fun q => by cases q <;> kernel_rfl) good66_5
    (fun q hq => by cases q with
      | z _ => exact hz5_flat g1 g2
      | m _ _ _ => exact hm5_flat g1 g2 hq)
    (fun q j hq _ => by cases q with
      | z _ => exact ⟨hz5_flat g1 g2, fun h => by cases h⟩
      | m _ _ _ => exact ⟨hm5_flat g1 g2 hq, fun h => by cases h⟩)
end
section
variable (cs : List Value) (n c : Nat) (es : List MapEntry) (k : Nat) (t s : Nat) (ex : Bool)
def hz4 : List (CO × Bool) := [(.dead, false), (.cells cs t s ex, true), (.dead, false), (.dead, false), (.map es k, true), (.cells [mp 4] 114 1 true, false)]
def hm4 (out : List Value) : List (CO × Bool) := [(.dead, false), (.cells cs t s ex, true), (.dead, false), (.dead, false), (.map es k, true), (.cells [mp 4] 114 1 true, false), (.cells out 67 2 false, true)]
def S66_4 : Shape KS := ⟨23, fun q => match q with
  | .z j => ⟨[(1, fnc 71 [pt 5 0]), (8, sl 1 0 n c), (9, i n), (5, .slice none 0 0), (10, i j)], hz4 cs es k t s ex⟩
  | .m j l out => ⟨[(1, fnc 71 [pt 5 0]), (8, sl 1 0 n c), (9, i n), (5, sl 6 0 l l), (10, i j)], hm4 cs es k t s ex out⟩,
  fun _ q => match q with
  | .z _ => (.exit 0, ⟨[(5, .slice none 0 0)], hz4 cs es k t s ex⟩)
  | .m _ l out => (.exit 0, ⟨[(5, sl 6 0 l l)], hm4 cs es k t s ex out⟩)⟩
def st66_4 : KS → SS KS
  | .z j => .br (ltF j n) (askS (bnd_ j n c) <| askS (cP cs j) <| askS (keysI es && valsB es) <| .br (kpB es cs j) (.next 10 (List.range 6 ++ [9]) (.m (wrapF .i64 (j + 1)) 1 (el cs j))) (.next 8 (List.range 6) (.z (wrapF .i64 (j + 1))))) (.done 6 (List.range 6) 0)
  | .m j l out => .br (ltF j n) (askS (bnd_ j n c) <| askS (cP cs j) <| askS (keysI es && valsB es) <| .br (kpB es cs j) (askS (full2 l out) <| .next 11 (List.range 6 ++ [10]) (.m (wrapF .i64 (j + 1)) (l + 1) (out ++ el cs j))) (.next 9 (List.range 7) (.m (wrapF .i64 (j + 1)) l out))) (.done 7 (List.range 7) 0)
end
section
variable {cs : List Value} {n c : Nat} {es : List MapEntry} {k : Nat} {t s : Nat} {ex : Bool}
theorem hz4_flat (g1 : cs.all Ex.flat = true) (g2 : flatM es) : ∀ o, (o, true) ∈ hz4 cs es k t s ex → FlatO o := by
  intro o ho
  simp [hz4] at ho
  rcases ho with rfl | rfl
  · exact fun x hx => List.all_eq_true.1 g1 x hx
  · exact g2
theorem hm4_flat (g1 : cs.all Ex.flat = true) (g2 : flatM es) {out : List Value} (g3 : out.all Ex.flat = true) : ∀ o, (o, true) ∈ hm4 cs es k t s ex out → FlatO o := by
  intro o ho
  simp [hm4] at ho
  rcases ho with rfl | rfl | rfl
  · exact fun x hx => List.all_eq_true.1 g1 x hx
  · exact g2
  · exact fun x hx => List.all_eq_true.1 g3 x hx
theorem good66_4 : ∀ q q', GdK q → (st66_4 cs n c es q).sel = some (.inl q') → GdK q' := by
  intro q q' hg h
  cases q with
  | z j =>
    rcases br_or' h with h | h
    · rcases br_or' (ask_or' (ask_or' (ask_or' h))) with h | h <;> (cases h; first | rfl | trivial)
    · cases h
  | m j l out =>
    rcases br_or' h with h | h
    · rcases br_or' (ask_or' (ask_or' (ask_or' h))) with h | h
      · have h := ask_or' h; cases h; exact app_flat hg rfl
      · cases h; exact hg
    · cases h
theorem L66_4 (g1 : cs.all Ex.flat = true) (g2 : flatM es) : Loop1 Try.prog 2 70 B66 (S66_4 cs n c es k t s ex) 6 (st66_4 cs n c es) GdK :=
  .mk' (C := CK66) (n := 60) (fun q _ => by cases q <;> exact tsX9) (fun q _ => by cases q <;> exact .none) (fun q ro _ => by cases q <;> kernel_rfl) (fun q ro _ => by cases q <;> kernel_rfl) (fun q => by cases q <;> kernel_rfl) good66_4
    (fun q hq => by cases q with
      | z _ => exact hz4_flat g1 g2
      | m _ _ _ => exact hm4_flat g1 g2 hq)
    (fun q j hq _ => by cases q with
      | z _ => exact ⟨hz4_flat g1 g2, fun h => by cases h⟩
      | m _ _ _ => exact ⟨hm4_flat g1 g2 hq, fun h => by cases h⟩)
end
end Go.Proofs.Yteemponkignnhaa.Ways
set_option maxRecDepth 10000
noncomputable section
namespace Go.Proofs.Yteemponkignnhaa.Ways
open Go Go.Ex Go.RowKit Go.Turn
noncomputable def T27 (f : Bool) : Tb := ext TX9 63 (twoE (sp59 f) [] (heapL deads))
theorem ts27 {G : Nat} (f : Bool) : TSound Try.prog G (T27 f) := tsX9.two (c59 f)
section
variable (cs cy : List Value) (m lc : Nat) (x : Int) (t s : Nat) (ex : Bool)
noncomputable def K27t (r : ST27) (q : KS) : Cfg := ⟨T27 true, at_ [(29, 19)] .bool no_, off_,
  loopE (loopE noL 29 7 47 7 B27 ((S27 cs cy (m + 1) (m + 1) lc x t s ex).st (0, [], 0)).live ((S27 cs cy (m + 1) (m + 1) lc x t s ex).st (0, [], 0)).hp (finO (S27 cs cy (m + 1) (m + 1) lc x t s ex) (0, r) [0]))
    70 3 23 7 B66 ((S66_5 cs (m + 1) (m + 1) r.2.1 r.2.2 t s ex).st (.z 0)).live ((S66_5 cs (m + 1) (m + 1) r.2.1 r.2.2 t s ex).st (.z 0)).hp (finO (S66_5 cs (m + 1) (m + 1) r.2.1 r.2.2 t s ex) (0, q) [0])⟩
noncomputable def K27f (q : KS) : Cfg := ⟨T27 false, at_ [(29, 19)] .bool no_, off_,
  loopE noL 70 3 23 6 B66 ((S66_4 cs (m + 1) (m + 1) [] 0 t s ex).st (.z 0)).live ((S66_4 cs (m + 1) (m + 1) [] 0 t s ex).st (.z 0)).hp (finO (S66_4 cs (m + 1) (m + 1) [] 0 t s ex) (0, q) [0])⟩
def cyO (cs : List Value) (m : Nat) : List Value := flatC (cnt cs (m + 1)).2
noncomputable def o27t (j : Int) (es : List MapEntry) (k : Nat) (q : KS) : Out QRes := execO Try.prog 2 (K27t cs (cyO cs m) m (cnt cs (m + 1)).2.length x t s ex (j, es, k) q) 60 (.call 29 ⟨[sl 1 0 (m + 1) (m + 1), i x]⟩ (heapL (deads ++ [.cells cs t s ex])))
noncomputable def o27f (q : KS) : Out QRes := execO Try.prog 2 (K27f cs m t s ex q) 60 (.call 29 ⟨[sl 1 0 (m + 1) (m + 1), i x]⟩ (heapL (deads ++ [.cells cs t s ex])))
noncomputable def pre27 (f : Bool) (r : NT) : NT := aN (tru (BokE cs (m + 1) (m + 1))) <| aN (tru (okI [i (crE cs (m + 1)), i (ckE x)] 2 2)) <| er28 (fst2 (crE cs (m + 1)) (ckE x)) <| aN (tru (P59 f cs (m + 1) (m + 1))) r
theorem v27tm (j : Int) (es : List MapEntry) (k : Nat) (j2 : Int) (l : Nat) (out : List Value) : (o27t cs m x t s ex j es k (.m j2 l out)).news = pre27 cs m x true (aN true (aN true (.leaf 7 (.tup l l out 67 2 false (i 0))))) := by kernel_rfl
theorem v27tz (j : Int) (es : List MapEntry) (k : Nat) (j2 : Int) : (o27t cs m x t s ex j es k (.z j2)).news = pre27 cs m x true (aN true (aN true (.leaf 1000000 (.old (tp [.slice none 0 0, i 0]))))) := by kernel_rfl
theorem x27t (j : Int) (es : List MapEntry) (k : Nat) : ∀ q, o27t cs m x t s ex j es k q = (o27t cs m x t s ex j es k q).fix
  | .z _ => by kernel_rfl
  | .m _ _ _ => by kernel_rfl
theorem v27fm (j2 : Int) (l : Nat) (out : List Value) : (o27f cs m x t s ex (.m j2 l out)).news = pre27 cs m x false (aN true (.leaf 6 (.tup l l out 67 2 false (i 0)))) := by kernel_rfl
theorem v27fz (j2 : Int) : (o27f cs m x t s ex (.z j2)).news = pre27 cs m x false (aN true (.leaf 1000000 (.old (tp [.slice none 0 0, i 0])))) := by kernel_rfl
theorem x27f : ∀ q, o27f cs m x t s ex q = (o27f cs m x t s ex q).fix
  | .z _ => by kernel_rfl
  | .m _ _ _ => by kernel_rfl
end
end Go.Proofs.Yteemponkignnhaa.Ways
set_option maxRecDepth 10000
noncomputable section
namespace Go.Proofs.Yteemponkignnhaa.Ways
open Go Go.Ex Go.RowKit Go.Turn
def szY (q : Cy) : Int := szC (minQ q.1.2 q.2.2) (maxQ q.1.2 q.2.2)
def stepM (x : Int) (r : List MapEntry × Nat) (q : Cy) : List MapEntry × Nat := if szY q < x then (nxM r.1 r.2 q.1.1 q.2.1, nxK r.1 r.2 q.1.1 q.2.1) else r
def mkM (x : Int) (C : List Cy) : List MapEntry × Nat := C.foldl (stepM x) ([], 0)
def inC (x : Int) (C : List Cy) (a : Int) : Bool := C.any fun q => decide (szY q < x) && (decide (a = q.1.1) || decide (a = q.2.1))
structure MOk (x : Int) (C : List Cy) (es : List MapEntry) : Prop where
  k : keysI es = true
  v : valsB es = true
  f : flatM es
  m : ∀ a, mapBV es a = inC x C a
theorem mkM_ok (x : Int) (C : List Cy) : MOk x C (mkM x C).1 := by
  have key : ∀ (D : List Cy) (C0 : List Cy) (r : List MapEntry × Nat), MOk x C0 r.1 → MOk x (C0 ++ D) (D.foldl (stepM x) r).1 := by
    intro D
    induction D with
    | nil => intro C0 r h; rw [List.append_nil]; exact h
    | cons q D ih =>
      intro C0 r h
      have h1 : MOk x (C0 ++ [q]) (stepM x r q).1 := by
        have hin : ∀ a, inC x (C0 ++ [q]) a = (inC x C0 a || (decide (szY q < x) && (decide (a = q.1.1) || decide (a = q.2.1)))) := fun a => by
          unfold inC; rw [List.any_append]; simp
        unfold stepM
        by_cases hs : szY q < x
        · rw [if_pos hs]
          refine ⟨keysI_upd (keysI_upd h.k), valsB_upd (valsB_upd h.v), flatM_wr (flatM_wr h.f), fun a => ?_⟩
          show mapBV (updE q.2.1 (.bool true) _ (updE q.1.1 (.bool true) _ r.1)) a = _
          rw [mapBV_upd, mapBV_upd, hin, h.m a, decide_eq_true hs]
          by_cases h1 : a = q.2.1
          · rw [if_pos h1, decide_eq_true h1]; simp
          · rw [if_neg h1, decide_eq_false h1]
            by_cases h2 : a = q.1.1
            · rw [if_pos h2, decide_eq_true h2]; simp
            · rw [if_neg h2, decide_eq_false h2]; simp
        · rw [if_neg hs]
          refine ⟨h.k, h.v, h.f, fun a => ?_⟩
          rw [h.m a, hin, decide_eq_false hs]; simp
      have := ih (C0 ++ [q]) (stepM x r q) h1
      rwa [List.append_assoc] at this
  have := key C [] ([], 0) ⟨rfl, rfl, fun m hm => absurd hm List.not_mem_nil, fun a => rfl⟩
  exact this
theorem flatC_get : ∀ (C : List Cy) (j : Nat) (h : j < C.length), (flatC C)[j * 4]? = some (i C[j].1.1) ∧ (flatC C)[j * 4 + 1]? = some (i C[j].2.1) ∧ (flatC C)[j * 4 + 2]? = some (i (minQ C[j].1.2 C[j].2.2)) ∧ (flatC C)[j * 4 + 3]? = some (i (maxQ C[j].1.2 C[j].2.2))
  | [], j, h => by simp at h
  | q :: r, 0, _ => ⟨rfl, rfl, rfl, rfl⟩
  | q :: r, j + 1, h => by
    have ih := flatC_get r j (by simpa using h)
    have e : ∀ k, (flatC (q :: r))[(j + 1) * 4 + k]? = (flatC r)[j * 4 + k]? := fun k => by
      show (cyL q ++ flatC r)[(j + 1) * 4 + k]? = _
      rw [List.getElem?_append_right (by show 4 ≤ _; omega)]
      congr 1
      show (j + 1) * 4 + k - 4 = _
      omega
    exact ⟨by have := e 0; rw [Nat.add_zero, Nat.add_zero] at this; rw [this]; exact ih.1, by rw [e 1]; exact ih.2.1, by rw [e 2]; exact ih.2.2.1, by rw [e 3]; exact ih.2.2.2⟩
theorem cC_t {C : List Cy} {j : Nat} (h : j < C.length) : cC (flatC C) (j : Int) = true := by
  obtain ⟨g0, g1, g2, g3⟩ := flatC_get C j h
  unfold cC
  show (isCellB (.i .i64) (flatC C)[0 + j * 4]? && (isCellB (.i .i64) (flatC C)[0 + j * 4 + 1]? && (isCellB (.i .i64) (flatC C)[0 + j * 4 + 1 + 1]? && (isCellB (.i .i64) (flatC C)[0 + j * 4 + 1 + 1 + 1]? && true)))) = true
  rw [Nat.zero_add, g0, g1, show j * 4 + 1 + 1 = j * 4 + 2 from rfl, g2, show j * 4 + 2 + 1 = j * 4 + 3 from rfl, g3]; rfl
theorem pC_t {C : List Cy} {j : Nat} (h : j < C.length) : pC (flatC C) 0 j = C[j].1.1 ∧ pC (flatC C) 1 j = C[j].2.1 ∧ szC (pC (flatC C) 2 j) (pC (flatC C) 3 j) = szY C[j] := by
  obtain ⟨g0, g1, g2, g3⟩ := flatC_get C j h
  refine ⟨?_, ?_, ?_⟩
  · unfold pC; rw [show 0 + j * 4 + 0 = j * 4 from by omega, g0]; rfl
  · unfold pC; rw [show 0 + j * 4 + 1 = j * 4 + 1 from by omega, g1]; rfl
  · unfold pC szY; rw [show 0 + j * 4 + 2 = j * 4 + 2 from by omega, show 0 + j * 4 + 3 = j * 4 + 3 from by omega, g2, g3]; rfl
theorem run27 {C : List Cy} {x : Int} (hn : C.length < 1000000) : runS (st27 (flatC C) C.length x) (C.length + 1) (0, [], 0) = some (0, ((C.length : Int), (mkM x C).1, (mkM x C).2)) := by
  have key := run_all (step := st27 (flatC C) C.length x) (st := fun j => (((j : Nat) : Int), (mkM x (C.take j)).1, (mkM x (C.take j)).2)) (a := 0) C.length (fun j hj => ?_) ?_
  · rw [List.take_length] at key
    exact key
  · obtain ⟨p0, p1, p2⟩ := pC_t hj
    have ht : C.take (j + 1) = C.take j ++ [C[j]] := by rw [List.take_add_one, List.getElem?_eq_getElem hj]; rfl
    have hm : mkM x (C.take (j + 1)) = stepM x (mkM x (C.take j)) C[j] := by
      unfold mkM; rw [ht, List.foldl_append]; rfl
    unfold st27
    dsimp only
    rw [br_t (by rw [ltF_eq]; exact decide_eq_true (by omega)), askS_sel (bnd_t hj (Nat.le_refl _)), askS_sel (cC_t hj), show ((j : Nat) : Int).toNat = j from rfl, p0, p1, p2, hm, wsucc (by omega)]
    unfold stepM
    by_cases hs : szY C[j] < x
    · rw [br_t (by rw [ltF_eq]; exact decide_eq_true hs), askS_sel (mkM_ok x (C.take j)).k, if_pos hs]; rfl
    · rw [br_f (by rw [ltF_eq]; exact decide_eq_false hs), if_neg hs]; rfl
  · unfold st27
    dsimp only
    rw [br_f (by rw [ltF_eq]; simp)]; rfl
def kpL (es : List MapEntry) (P : List Pt) : List Pt := P.filter fun p => !mapBV es p.1
def kS (es : List MapEntry) (P : List Pt) (j : Nat) : KS := match kpL es (P.take j) with
  | [] => .z j
  | q :: L => .m j (L.length + 1) (flatP (q :: L))
theorem kp_take {es : List MapEntry} {P : List Pt} {j : Nat} (h : j < P.length) : kpL es (P.take (j + 1)) = kpL es (P.take j) ++ (if mapBV es P[j].1 = true then [] else [P[j]]) := by
  unfold kpL
  rw [List.take_add_one, List.getElem?_eq_getElem h, List.filter_append]
  congr 1
  show [P[j]].filter _ = _
  by_cases hb : mapBV es P[j].1 = true
  · rw [if_pos hb]; simp [hb]
  · rw [if_neg hb]; simp [hb]
theorem el_eq {P : List Pt} {j : Nat} (h : j < P.length) : el (flatP P) (j : Int) = flatP [P[j]] ∧ pA (flatP P) j = P[j].1 := by
  have e : Turn.at_ P j = P[j] := by
    unfold Turn.at_
    rw [List.getD_eq_getElem?_getD, List.getElem?_eq_getElem h]; rfl
  refine ⟨by rw [el_flat h, e], ?_⟩
  unfold pA
  rw [show 0 + j * 2 = j * 2 from by omega, (flatP_get P j h).1, e]; rfl
theorem run66 {step : KS → SS KS} {P : List Pt} {es : List MapEntry} (hn : P.length < 1000000)
    (hz : ∀ j : Nat, (step (.z j)).sel = (SS.br (ltF j P.length) (askS (bnd_ j P.length P.length) <| askS (cP (flatP P) j) <| askS (keysI es && valsB es) <| .br (kpB es (flatP P) j) (.next 0 [] (.m (wrapF .i64 ((j : Int) + 1)) 1 (el (flatP P) j))) (.next 0 [] (.z (wrapF .i64 ((j : Int) + 1))))) (.done 0 [] 0)).sel)
    (hm : ∀ (j : Nat) (l : Nat) (out : List Value), (step (.m j l out)).sel = (SS.br (ltF j P.length) (askS (bnd_ j P.length P.length) <| askS (cP (flatP P) j) <| askS (keysI es && valsB es) <| .br (kpB es (flatP P) j) (askS (full2 l out) <| .next 0 [] (.m (wrapF .i64 ((j : Int) + 1)) (l + 1) (out ++ el (flatP P) j))) (.next 0 [] (.m (wrapF .i64 ((j : Int) + 1)) l out))) (.done 0 [] 0)).sel)
    (h1 : keysI es = true) (h2 : valsB es = true) : runS step (P.length + 1) (.z 0) = some (0, kS es P P.length) := by
  have hok := okP_flat hn
  have key := run_all (step := step) (st := kS es P) (a := 0) P.length (fun j hj => ?_) ?_
  · exact key
  · obtain ⟨e1, e2⟩ := el_eq hj
    have hkp : kpB es (flatP P) (j : Int) = !mapBV es P[j].1 := by unfold kpB; rw [show ((j : Nat) : Int).toNat = j from rfl, e2]
    have hlen : (kpL es (P.take j)).length ≤ j := by
      unfold kpL
      exact Nat.le_trans (List.length_filter_le _ _) (by rw [List.length_take]; omega)
    have ht := kp_take (es := es) hj
    unfold kS
    cases hk : kpL es (P.take j) with
    | nil =>
      rw [hk, List.nil_append] at ht
      dsimp only
      rw [hz j, br_t (by rw [ltF_eq]; exact decide_eq_true (by omega)), askS_sel (bnd_t hj (Nat.le_refl _)), askS_sel (cP_t hok hj), askS_sel (by rw [h1, h2]; rfl), hkp, wsucc (by omega), e1, ht]
      cases mapBV es P[j].1 <;> rfl
    | cons q L =>
      rw [hk] at ht hlen
      dsimp only
      rw [hm j, br_t (by rw [ltF_eq]; exact decide_eq_true (by omega)), askS_sel (bnd_t hj (Nat.le_refl _)), askS_sel (cP_t hok hj), askS_sel (by rw [h1, h2]; rfl), hkp, wsucc (by omega), e1, ht]
      cases mapBV es P[j].1 with
      | true => simp [SS.sel]
      | false =>
        have hf : full2 (L.length + 1) (flatP (q :: L)) = true := full2_t (by rw [flatP_len]; rfl) (by simp at hlen; omega)
        show (askS (full2 (L.length + 1) (flatP (q :: L))) _).sel = _
        rw [askS_sel hf, ← flatP_app]
        simp [SS.sel]
  · unfold kS
    cases hk : kpL es (P.take P.length) with
    | nil =>
      dsimp only
      rw [hz, br_f (by rw [ltF_eq]; simp)]; rfl
    | cons q L =>
      dsimp only
      rw [hm, br_f (by rw [ltF_eq]; simp)]; rfl
theorem br_same {σ : Type} {b : Bool} {t t' e e' : SS σ} (h1 : t.sel = t'.sel) (h2 : e.sel = e'.sel) : (SS.br b t e).sel = (SS.br b t' e').sel := by cases b <;> assumption
theorem ask_same {σ : Type} {b : Bool} {t t' : SS σ} (h : t.sel = t'.sel) : (askS b t).sel = (askS b t').sel := br_same h rfl
theorem run66_5 {P : List Pt} {es : List MapEntry} (hn : P.length < 1000000) (h1 : keysI es = true) (h2 : valsB es = true) : runS (st66_5 (flatP P) P.length P.length es) (P.length + 1) (.z 0) = some (0, kS es P P.length) :=
  run66 hn (fun _ => br_same (ask_same (ask_same (ask_same (br_same rfl rfl)))) rfl) (fun _ _ _ => br_same (ask_same (ask_same (ask_same (br_same (ask_same rfl) rfl)))) rfl) h1 h2
theorem run66_4 {P : List Pt} {es : List MapEntry} (hn : P.length < 1000000) (h1 : keysI es = true) (h2 : valsB es = true) : runS (st66_4 (flatP P) P.length P.length es) (P.length + 1) (.z 0) = some (0, kS es P P.length) :=
  run66 hn (fun _ => br_same (ask_same (ask_same (ask_same (br_same rfl rfl)))) rfl) (fun _ _ _ => br_same (ask_same (ask_same (ask_same (br_same (ask_same rfl) rfl)))) rfl) h1 h2
def FL (x : Int) (P : List Pt) : List Pt := P.filter fun p => !inC x (cnt (flatP P) P.length).2 p.1
theorem kpL_eq {x : Int} {C : List Cy} {es : List MapEntry} (h : MOk x C es) (P : List Pt) : kpL es P = P.filter fun p => !inC x C p.1 := by
  unfold kpL
  exact List.filter_congr fun p _ => by rw [h.m]
def R27 (T : Nat) (L : List Pt) : NRes := match L with
  | [] => .old (tp [.slice none 0 0, i 0])
  | q :: r => .tup (r.length + 1) (r.length + 1) (flatP (q :: r)) T 2 false (i 0)
theorem R27_fl (T : Nat) (L : List Pt) : (R27 T L).Fl := by
  cases L with
  | nil => exact rfl
  | cons _ _ => exact ⟨flatP_flat _, rfl⟩
theorem n27t {cs : List Value} {m : Nat} {x : Int} {t s : Nat} {ex : Bool} {j : Int} {es : List MapEntry} {k b : Nat} {q : KS} {r : NRes} (hL : LSound Try.prog 2 (K27t cs (cyO cs m) m (cnt cs (m + 1)).2.length x t s ex (j, es, k) q).L)
    (h : (o27t cs m x t s ex j es k q).news.sel = some (b, r)) (hb : 2 ≤ b) (hfl : r.Fl) : r.Ok Try.prog 29 [sl 1 0 (m + 1) (m + 1), i x] deads [.cells cs t s ex] 2 :=
  news_ok (C := K27t cs (cyO cs m) m (cnt cs (m + 1)).2.length x t s ex (j, es, k) q) (n := 60) (ts27 true) hL (x27t cs m x t s ex j es k q) h hb hfl
theorem n27f {cs : List Value} {m : Nat} {x : Int} {t s : Nat} {ex : Bool} {b : Nat} {q : KS} {r : NRes} (hL : LSound Try.prog 2 (K27f cs m t s ex q).L)
    (h : (o27f cs m x t s ex q).news.sel = some (b, r)) (hb : 2 ≤ b) (hfl : r.Fl) : r.Ok Try.prog 29 [sl 1 0 (m + 1) (m + 1), i x] deads [.cells cs t s ex] 2 :=
  news_ok (C := K27f cs m t s ex q) (n := 60) (ts27 false) hL (x27f cs m x t s ex q) h hb hfl
def e27 (cs : List Value) (m : Nat) (x : Int) : Int := fst2 (crE cs (m + 1)) (ckE x)
def sp27 (g f : Bool) : NSpec := fun al css => match al, css with
  | [.slice (some ⟨1, 0, none⟩) (m + 1) (m2 + 1), .int .i64 x], [cs] => some (m2 = m ∧ RowE cs (m + 1) ∧ m < 900000 ∧ gq g (e27 cs m x) ∧ (g = true → fq f (cnt cs (m + 1)).2) ∧ (g = false → f = true), cond g (R27 67 (FL x (pts cs (m + 1)))) (.old (tp [.slice none 0 0, i (e27 cs m x)])))
  | _, _ => none
theorem c27 (g f : Bool) : ∀ al css os p v, sp27 g f al css = some (p, v) → p → Blks css os → (∀ cs ∈ css, cs.all Ex.flat = true) ∧ v.Ok Try.prog 29 al deads os (gl + css.length) := by
  intro al css os p v hs hp hb
  unfold sp27 at hs
  split at hs
  case h_2 => cases hs
  rename_i m m2 x cs
  cases hs
  obtain ⟨rfl, h1, hn, hg, hf, hgf⟩ := hp
  obtain ⟨t, s, ex, rfl⟩ := blks1 hb
  have hbok := h1.bok
  have hcs := h1.cells
  refine ⟨one_flat hbok.1.1, ?_⟩
  obtain ⟨P, hP⟩ : ∃ P, P = pts cs (m2 + 1) := ⟨_, rfl⟩
  have hl : P.length = m2 + 1 := by rw [hP, pts_len]
  rw [← hP] at hcs
  have hFL : FL x (pts cs (m2 + 1)) = P.filter fun p => !inC x (cnt cs (m2 + 1)).2 p.1 := by
    rw [← hP]; unfold FL; rw [← hcs, hl]
  have hclen : (cnt cs (m2 + 1)).2.length < 1000000 := by have := cnt_len cs (m2 + 1); omega
  have hpre : ∀ r, e27 cs m2 x = 0 → P59 f cs (m2 + 1) (m2 + 1) → (pre27 cs m2 x f r).sel = r.sel := fun r he hp => by
    unfold pre27
    rw [aN_sel (tru_iff.2 hbok), aN_sel (tru_iff.2 (okI2 _ _))]
    unfold er28
    show cond (!eqF (e27 cs m2 x) 0) _ (aN _ _).sel = _
    rw [eqF_d, decide_eq_true he]
    show (aN _ _).sel = _
    rw [aN_sel (tru_iff.2 hp)]
  have hno : ∀ f r, e27 cs m2 x ≠ 0 → (pre27 cs m2 x f r).sel = some (1000000, .old (tp [.slice none 0 0, i (e27 cs m2 x)])) := fun f r he => by
    unfold pre27
    rw [aN_sel (tru_iff.2 hbok), aN_sel (tru_iff.2 (okI2 _ _))]
    unfold er28
    show cond (!eqF (e27 cs m2 x) 0) _ (aN _ _).sel = _
    rw [eqF_d, decide_eq_false he]; rfl
  obtain ⟨jj, hjj⟩ : ∃ jj : Int, jj = (((cnt cs (m2 + 1)).2.length : Nat) : Int) := ⟨_, rfl⟩
  obtain ⟨M, hMM⟩ : ∃ M, M = mkM x (cnt cs (m2 + 1)).2 := ⟨_, rfl⟩
  have hM : MOk x (cnt cs (m2 + 1)).2 M.1 := by rw [hMM]; exact mkM_ok x _
  have hr1 : runS (st27 (cyO cs m2) (cnt cs (m2 + 1)).2.length x) ((cnt cs (m2 + 1)).2.length + 1) (0, [], 0) = some (0, (jj, M.1, M.2)) := by rw [hjj, hMM]; exact run27 hclen
  obtain ⟨es, k⟩ := M
  dsimp only at hM hr1
  have hL1 := (L27 (cs := cs) (cy := cyO cs m2) (n := m2 + 1) (c := m2 + 1) (lc := (cnt cs (m2 + 1)).2.length) (x := x) (t := t) (s := s) (ex := ex) hbok.1.1 (flatC_flat _)).table (id := 7) (s0 := (0, [], 0)) .none (by decide) (show flatM [] from fun m hm => absurd hm List.not_mem_nil) hr1 (by kernel_rfl) [0]
  have hr2 : runS (st66_5 cs (m2 + 1) (m2 + 1) es) (m2 + 1 + 1) (.z 0) = some (0, kS es P (m2 + 1)) := by
    have := run66_5 (P := P) (es := es) (by omega) hM.k hM.v
    rwa [hl, ← hcs] at this
  have hL2 : ∀ q, q = kS es P (m2 + 1) → LSound Try.prog 2 (K27t cs (cyO cs m2) m2 (cnt cs (m2 + 1)).2.length x t s ex (jj, es, k) q).L := fun q hq => by
    subst hq
    exact (L66_5 (cs := cs) (n := m2 + 1) (c := m2 + 1) (es := es) (k := k) (t := t) (s := s) (ex := ex) hbok.1.1 hM.f).table (id := 3) (s0 := .z 0) hL1 (by decide) trivial hr2 (by kernel_rfl) [0]
  have hr3 : runS (st66_4 cs (m2 + 1) (m2 + 1) []) (m2 + 1 + 1) (.z 0) = some (0, kS [] P (m2 + 1)) := by
    have := run66_4 (P := P) (es := []) (by omega) rfl rfl
    rwa [hl, ← hcs] at this
  have hL3 : ∀ q, q = kS [] P (m2 + 1) → LSound Try.prog 2 (K27f cs m2 t s ex q).L := fun q hq => by
    subst hq
    exact (L66_4 (cs := cs) (n := m2 + 1) (c := m2 + 1) (es := []) (k := 0) (t := t) (s := s) (ex := ex) hbok.1.1 (fun _ hm => absurd hm List.not_mem_nil)).table (id := 3) (s0 := .z 0) .none (by decide) trivial hr3 (by kernel_rfl) [0]
  have hend : ∀ {es : List MapEntry} {C : List Cy}, MOk x C es → kpL es (P.take (m2 + 1)) = P.filter fun p => !inC x C p.1 := fun h => by rw [← hl, List.take_length]; exact kpL_eq h P
  cases g with
  | false =>
    obtain rfl := hgf rfl
    cases hk : kS es P (m2 + 1) with
    | z _ => exact n27t (hL2 _ hk.symm) (by rw [v27tz]; exact hno true _ hg) (show 2 ≤ 1000000 by decide) (show NRes.Fl (.old (tp [.slice none 0 0, i (e27 cs m2 x)])) from rfl)
    | m _ _ _ => exact n27t (hL2 _ hk.symm) (by rw [v27tm]; exact hno true _ hg) (show 2 ≤ 1000000 by decide) (show NRes.Fl (.old (tp [.slice none 0 0, i (e27 cs m2 x)])) from rfl)
  | true =>
    have hP59 : P59 f cs (m2 + 1) (m2 + 1) := ⟨hbok.1, by omega, by omega, hf rfl⟩
    show (R27 67 (FL x (pts cs (m2 + 1)))).Ok _ _ _ _ _ _
    cases f with
    | true =>
      have he := hend hM
      rw [← hFL] at he
      cases hF : FL x (pts cs (m2 + 1)) with
      | nil =>
        have hk : kS es P (m2 + 1) = .z ((m2 + 1 : Nat) : Int) := by unfold kS; rw [he, hF]
        exact n27t (hL2 _ hk.symm) (by rw [v27tz, hpre _ hg hP59]; rfl) (show 2 ≤ 1000000 by decide) (R27_fl 67 [])
      | cons q r =>
        have hk : kS es P (m2 + 1) = .m ((m2 + 1 : Nat) : Int) (r.length + 1) (flatP (q :: r)) := by unfold kS; rw [he, hF]
        exact n27t (hL2 _ hk.symm) (by rw [v27tm, hpre _ hg hP59]; rfl) (show 2 ≤ 7 by decide) (R27_fl 67 (q :: r))
    | false =>
      have hC : (cnt cs (m2 + 1)).2 = [] := hf rfl
      have he := hend (es := []) (C := (cnt cs (m2 + 1)).2) (by rw [hC]; exact mkM_ok x [])
      rw [← hFL] at he
      cases hF : FL x (pts cs (m2 + 1)) with
      | nil =>
        have hk : kS [] P (m2 + 1) = .z ((m2 + 1 : Nat) : Int) := by unfold kS; rw [he, hF]
        exact n27f (hL3 _ hk.symm) (by rw [v27fz, hpre _ hg hP59]; rfl) (show 2 ≤ 1000000 by decide) (R27_fl 67 [])
      | cons q r =>
        have hk : kS [] P (m2 + 1) = .m ((m2 + 1 : Nat) : Int) (r.length + 1) (flatP (q :: r)) := by unfold kS; rw [he, hF]
        exact n27f (hL3 _ hk.symm) (by rw [v27fm, hpre _ hg hP59]; rfl) (show 2 ≤ 6 by decide) (R27_fl 67 (q :: r))
end Go.Proofs.Yteemponkignnhaa.Ways
set_option maxRecDepth 10000
noncomputable section
namespace Go.Proofs.Yteemponkignnhaa.Ways
open Go Go.Ex Go.RowKit Go.Turn
def cI (cy : List Value) (q : Nat) (kk : Int) : Bool := isCellB (.i .i64) cy[0 + kk.toNat * 4 + q]?
abbrev SI := Int × Bool
section
variable (cs cy : List Value) (n lc : Nat) (x j : Int) (K : Nat)
end
section
variable (cs cy : List Value) (n lc : Nat) (x j : Int) (t s : Nat) (ex : Bool)
end
section
variable {cs cy : List Value} {n lc : Nat} {x j : Int} {t s : Nat} {ex : Bool}
end
end Go.Proofs.Yteemponkignnhaa.Ways
set_option maxRecDepth 10000
noncomputable section
namespace Go.Proofs.Yteemponkignnhaa.Ways
open Go Go.Ex Go.RowKit Go.Turn
section
variable (cs : List Value) (n : Nat) (x : Int) (t s : Nat) (ex : Bool)
end
section
variable {cs : List Value} {n : Nat} {x : Int} {t s : Nat} {ex : Bool}
end
end Go.Proofs.Yteemponkignnhaa.Ways
set_option maxRecDepth 10000
noncomputable section
namespace Go.Proofs.Yteemponkignnhaa.Ways
open Go Go.Ex Go.RowKit Go.Turn
section
variable (cs : List Value) (m : Nat) (x : Int) (t s : Nat) (ex : Bool)
end
end Go.Proofs.Yteemponkignnhaa.Ways
set_option maxRecDepth 10000
noncomputable section
namespace Go.Proofs.Yteemponkignnhaa.Ways
open Go Go.Ex Go.RowKit Go.Turn
theorem firstF_z0 {e : Nat → Int} : ∀ {n s : Nat}, (∀ j, j < n → e (s + j) = 0) → firstF e n s = 0
  | 0, _, _ => rfl
  | n + 1, s, h => by
    unfold firstF
    rw [if_neg (fun hh => hh (by have := h 0 (by omega); rwa [Nat.add_zero] at this))]
    exact firstF_z0 fun j hj => by have := h (j + 1) (by omega); rwa [show s + (j + 1) = s + 1 + j from by omega] at this
theorem firstF_all {e : Nat → Int} : ∀ {n s : Nat}, firstF e n s = 0 → ∀ j, j < n → e (s + j) = 0
  | 0, _, _, j, hj => by omega
  | n + 1, s, h, j, hj => by
    unfold firstF at h
    by_cases h1 : e s = 0
    · rw [if_neg (fun hh => hh h1)] at h
      cases j with
      | zero => exact h1
      | succ j => have := firstF_all h j (by omega); rwa [show s + 1 + j = s + (j + 1) from by omega] at this
    · rw [if_pos h1] at h; exact absurd h h1
structure Rise (P : List Pt) : Prop where
  len : P.length < 900000
  lo : ∀ j (h : j < P.length), 0 ≤ P[j].1 ∧ P[j].1 ≤ 39999
  up : ∀ j (h : j + 1 < P.length), P[j].1 < P[j + 1].1
theorem Rise.mono {P : List Pt} (h : Rise P) : ∀ (k j : Nat) (hk : j + k < P.length), P[j].1 + k ≤ P[j + k].1
  | 0, j, hk => by simp
  | k + 1, j, hk => by
    have h1 := h.mono k j (by omega)
    have h2 := h.up (j + k) (by omega)
    have e : j + (k + 1) = j + k + 1 := by omega
    simp only [e]
    omega
theorem pA_fl {P : List Pt} {j : Nat} (h : j < P.length) : pA (flatP P) j = P[j].1 := (el_eq h).2
theorem rgE_zero {x lo hi : Int} (h : rgE x lo hi = 0) : lo ≤ x ∧ x ≤ hi := by
  unfold rgE at h
  by_cases h1 : lo ≤ x ∧ x ≤ hi
  · exact h1
  · rw [if_neg h1] at h; cases h
end Go.Proofs.Yteemponkignnhaa.Ways
