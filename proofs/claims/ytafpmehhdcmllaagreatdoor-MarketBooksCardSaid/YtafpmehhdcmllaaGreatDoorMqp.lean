import Derived.Test.YtafpmehhdcmllaaGreatDoorMq4
import Derived.Test.YtafpmehhdcmllaaGreatDoorMr7
noncomputable section
namespace Go.Proofs.YtafpmehhdcmllaaGreatDoor.Ways
open Go Go.Ex Go.RowKit
/-! ### MarketBooks: parts of lists, sums -/
theorem pt_get {w o len : Nat} {cs : List Value} {p : Nat} (h : p < len * w) : (ptO w cs o len)[p]? = cs[o + p]? := by
  unfold ptO
  rw [List.getElem?_take, if_pos h, List.getElem?_drop]
theorem areCells_congr {a b : List Value} : ∀ (ks : List CK) (p r : Nat), (∀ c, c < ks.length → a[p + c]? = b[r + c]?) → areCells ks a p = areCells ks b r
  | [], _, _, _ => rfl
  | k :: ks, p, r, h => by
    show (isCellB k a[p]? && areCells ks a (p + 1)) = (isCellB k b[r]? && areCells ks b (r + 1))
    have h0 := h 0 (by simp)
    rw [Nat.add_zero, Nat.add_zero] at h0
    rw [h0, areCells_congr ks (p + 1) (r + 1) fun c hc => by
      have := h (c + 1) (by simpa using hc)
      rw [show p + 1 + c = p + (c + 1) from by omega, show r + 1 + c = r + (c + 1) from by omega]
      exact this]
theorem row_lt {j len w : Nat} (h : j < len) {c : Nat} (hc : c < w) : j * w + c < len * w := by
  have : (j + 1) * w ≤ len * w := Nat.mul_le_mul_right w h
  rw [Nat.add_mul, Nat.one_mul] at this
  omega
theorem ce_pt {w x len : Nat} {cs : List Value} {o j c : Nat} (ho : o = x * w) (h : j < len) (hc : c < w) : ce w c (ptO w cs o len) j = ce w c cs (x + j) := by
  unfold ce
  rw [pt_get (by have := row_lt h hc; omega), ho, Nat.add_mul]
  congr 2
  omega
theorem are_pt {ks : List CK} {w x len : Nat} {cs : List Value} {o j : Nat} (hw : ks.length = w) (ho : o = x * w) (h : j < len) : areCells ks (ptO w cs o len) (0 + j * w) = areCells ks cs (0 + (x + j) * w) := by
  refine areCells_congr ks _ _ fun c hc => ?_
  rw [pt_get (by have := row_lt (w := w) h (by omega : c < w); omega), ho, Nat.add_mul]
  congr 1
  omega
theorem pt_len {w x len n : Nat} {cs : List Value} {o : Nat} (ho : o = x * w) (hl : cs.length = n * w) (hx : x + len ≤ n) : (ptO w cs o len).length = len * w := by
  unfold ptO
  have : (x + len) * w ≤ n * w := Nat.mul_le_mul_right w hx
  rw [Nat.add_mul] at this
  rw [List.length_take, List.length_drop, hl, ho]
  omega
section
variable {cs ps : List Value} {n x len : Nat}
theorem ptQ {o : Nat} (h : rawQ cs n) (ho : o = x * 5) (hx : x + len ≤ n) : rawQ (ptO 5 cs o len) len := ⟨pt_flat h.1, pt_len ho h.2.1 hx, fun j hj => by rw [are_pt (w := 5) rfl ho hj]; exact h.2.2 _ (by omega)⟩
theorem ptP {o : Nat} (h : rawP ps n) (ho : o = x * 3) (hx : x + len ≤ n) : rawP (ptO 3 ps o len) len := ⟨pt_flat h.1, pt_len ho h.2.1 hx, fun j hj => by rw [are_pt (w := 3) rfl ho hj]; exact h.2.2 _ (by omega)⟩
theorem eQ_pt {o j : Nat} (ho : o = x * 5) (h : j < len) : eQ (ptO 5 cs o len) j = eQ cs (x + j) := by
  unfold eQ
  rw [ce_pt ho h (by omega), ce_pt ho h (by omega), ce_pt ho h (by omega), ce_pt ho h (by omega), ce_pt ho h (by omega)]
theorem eP_pt {o j : Nat} (ho : o = x * 3) (h : j < len) : eP (ptO 3 ps o len) j = eP ps (x + j) := by
  unfold eP
  rw [ce_pt ho h (by omega), ce_pt ho h (by omega), ce_pt ho h (by omega)]
theorem firstF_z {e : Nat → Int} {n : Nat} (h : ∀ j, j < n → e j = 0) : firstF e n 0 = 0 := (firstF_zero n 0).2 fun k _ hk => h k (by omega)
theorem csE_pt {o r : Nat} (h : csE cs ps n n = 0) (ho : o = x * 5) (hr : r = x * 3) (hx : x + len ≤ n) (hn : n ≤ 96) : csE (ptO 5 cs o len) (ptO 3 ps r len) len len = 0 := by
  obtain ⟨h1, h2, _⟩ := csE_eq0 h
  have q := days_z (e := eQ cs) h1
  have p := days_z (e := eP ps) h2
  have e1 : cqE (ptO 5 cs o len) len = 0 := by
    unfold cqE
    rw [if_neg (by omega), firstF_z fun j hj => by rw [eQ_pt ho hj]; exact q _ (by omega)]
  have e2 : cpE (ptO 3 ps r len) len = 0 := by
    unfold cpE
    rw [if_neg (by omega), firstF_z fun j hj => by rw [eP_pt hr hj]; exact p _ (by omega)]
  unfold csE
  rw [e1, e2, if_neg (by simp), if_neg (by simp), if_pos rfl]
theorem GoE_pt {o r : Nat} (hc : rawQ cs n) (hp : rawP ps n) (h : csE cs ps n n = 0) (ho : o = x * 5) (hr : r = x * 3) (hx : x + len ≤ n) (hn : n ≤ 96) : GoE (ptO 5 cs o len) (ptO 3 ps r len) len len len len :=
  ⟨⟨okQ_of (ptQ hc ho hx) (by omega), okP_of (ptP hp hr hx) (by omega)⟩, csE_pt h ho hr hx hn, by omega⟩
theorem okO_q {o c : Nat} (hc : rawQ cs n) (ho : o = x * 5) (hx : x + len ≤ n) (hl : len ≤ c) (hn : n ≤ 96) : okO k5 5 o cs len c := ⟨hc.1, hl, by omega, fun j hj => by
  have := hc.2.2 (x + j) (by omega)
  rw [ho, show x * 5 + j * 5 = 0 + (x + j) * 5 from by omega]
  exact this⟩
theorem okO_p {o c : Nat} (hp : rawP ps n) (ho : o = x * 3) (hx : x + len ≤ n) (hl : len ≤ c) (hn : n ≤ 96) : okO k3 3 o ps len c := ⟨hp.1, hl, by omega, fun j hj => by
  have := hp.2.2 (x + j) (by omega)
  rw [ho, show x * 3 + j * 3 = 0 + (x + j) * 3 from by omega]
  exact this⟩
end
/-! sums -/
def sumI (f : Nat → Int) : Nat → Int
  | 0 => 0
  | j + 1 => sumI f j + f j
theorem sumI_bd {f : Nat → Int} : ∀ {n : Nat}, (∀ j, j < n → -1000000000000 ≤ f j ∧ f j ≤ 1000000000000) → -(n * 1000000000000) ≤ sumI f n ∧ sumI f n ≤ n * 1000000000000
  | 0, _ => by simp [sumI]
  | n + 1, h => by
    have h1 := sumI_bd (n := n) fun j hj => h j (by omega)
    have h2 := h n (by omega)
    show -(((n + 1 : Nat) : Int) * 1000000000000) ≤ sumI f n + f n ∧ sumI f n + f n ≤ ((n + 1 : Nat) : Int) * 1000000000000
    omega
theorem sumW_I {f : Nat → Int} : ∀ {n : Nat}, n ≤ 96 → (∀ j, j < n → -1000000000000 ≤ f j ∧ f j ≤ 1000000000000) → sumW f n = sumI f n
  | 0, _, _ => rfl
  | n + 1, hn, h => by
    show wrapF .i64 (sumW f n + f n) = sumI f n + f n
    rw [sumW_I (n := n) (by omega) fun j hj => h j (by omega)]
    have h1 := sumI_bd (n := n) fun j hj => h j (by omega)
    have h2 := h n (by omega)
    exact wrapF_in (by omega) (by omega)
theorem sumI_ext {f g : Nat → Int} : ∀ {n : Nat}, (∀ j, j < n → f j = g j) → sumI f n = sumI g n
  | 0, _ => rfl
  | n + 1, h => by
    show sumI f n + f n = sumI g n + g n
    rw [sumI_ext fun j hj => h j (by omega), h n (by omega)]
theorem sumI_split (f : Nat → Int) (k : Nat) : ∀ l, sumI f (k + l) = sumI f k + sumI (fun j => f (k + j)) l
  | 0 => by show sumI f k = sumI f k + 0; omega
  | l + 1 => by
    show sumI f (k + l) + f (k + l) = sumI f k + (sumI (fun j => f (k + j)) l + f (k + l))
    rw [sumI_split f k l]; omega
theorem sumI_3 {h f g e : Nat → Int} : ∀ {n : Nat}, (∀ j, j < n → h j = f j + g j + e j) → sumI h n = sumI f n + sumI g n + sumI e n
  | 0, _ => rfl
  | n + 1, hh => by
    show sumI h n + h n = (sumI f n + f n) + (sumI g n + g n) + (sumI e n + e n)
    rw [sumI_3 fun j hj => hh j (by omega), hh n (by omega)]; omega
theorem sumI_d {h f g e : Nat → Int} : ∀ {n : Nat}, (∀ j, j < n → h j = f j + g j - e j) → sumI h n = sumI f n + sumI g n - sumI e n
  | 0, _ => rfl
  | n + 1, hh => by
    show sumI h n + h n = (sumI f n + f n) + (sumI g n + g n) - (sumI e n + e n)
    rw [sumI_d fun j hj => hh j (by omega), hh n (by omega)]; omega
/-- the sum of a list is that of its parts -/
theorem sum_parts {f f1 f2 : Nat → Int} {n k : Nat} (hk : k ≤ n) (hn : n ≤ 96) (hb : ∀ j, j < n → -1000000000000 ≤ f j ∧ f j ≤ 1000000000000) (h1 : ∀ j, j < k → f1 j = f j) (h2 : ∀ j, j < n - k → f2 j = f (k + j)) : sumW f n = wrapF .i64 (sumW f1 k + sumW f2 (n - k)) := by
  have e1 : sumW f1 k = sumI f k := by rw [sumW_ext h1, sumW_I (by omega) fun j hj => hb j (by omega)]
  have e2 : sumW f2 (n - k) = sumI (fun j => f (k + j)) (n - k) := by rw [sumW_ext h2, sumW_I (by omega) fun j hj => hb (k + j) (by omega)]
  have b1 := sumI_bd (f := f) (n := k) fun j hj => hb j (by omega)
  have b2 := sumI_bd (f := fun j => f (k + j)) (n := n - k) fun j hj => hb (k + j) (by omega)
  rw [e1, e2, sumW_I hn hb, wrapF_in (by omega) (by omega), ← sumI_split, Nat.add_sub_cancel' hk]
end Go.Proofs.YtafpmehhdcmllaaGreatDoor.Ways
noncomputable section
namespace Go.Proofs.YtafpmehhdcmllaaGreatDoor.Ways
open Go Go.Ex Go.RowKit
/-! ### MarketBooks: a row's amounts -/
theorem rg_of {x lo hi : Int} (h1 : lo ≤ x) (h2 : x ≤ hi) : rgE x lo hi = 0 := by
  unfold rgE
  rw [if_pos ⟨h1, h2⟩]
structure QB (a b c d e : Int) : Prop where
  ha : 0 ≤ a ∧ a ≤ 6400000
  hb : 0 ≤ b ∧ b ≤ 6400000
  hc : 0 ≤ c ∧ c ≤ 6400000
  hd : 0 ≤ d ∧ d ≤ 6400000
  he : 0 ≤ e ∧ e ≤ 6400000
  hs : b = c + d + e
theorem qcE_a {a b c d e : Int} (h : qcE a b c d e = 0) : QB a b c d e := by
  unfold qcE at h
  by_cases h' : toE a ≠ 0 ∨ toE b ≠ 0 ∨ toE c ≠ 0 ∨ toE d ≠ 0 ∨ toE e ≠ 0
  · rw [if_pos h'] at h; cases h
  · rw [if_neg h'] at h
    have ha : toE a = 0 := by by_cases q : toE a = 0; exact q; exact absurd (.inl q) h'
    have hb : toE b = 0 := by by_cases q : toE b = 0; exact q; exact absurd (.inr (.inl q)) h'
    have hc : toE c = 0 := by by_cases q : toE c = 0; exact q; exact absurd (.inr (.inr (.inl q))) h'
    have hd : toE d = 0 := by by_cases q : toE d = 0; exact q; exact absurd (.inr (.inr (.inr (.inl q)))) h'
    have he : toE e = 0 := by by_cases q : toE e = 0; exact q; exact absurd (.inr (.inr (.inr (.inr q)))) h'
    have hs : b = baE c d e := by
      by_cases q : b = baE c d e
      · exact q
      · rw [if_neg q] at h; cases h
    have kc := rg_z hc
    have kd := rg_z hd
    have ke := rg_z he
    refine ⟨rg_z ha, rg_z hb, kc, kd, ke, ?_⟩
    rw [hs]
    unfold baE
    rw [wrapF_in (n := c + d) (by omega) (by omega), wrapF_in (by omega) (by omega)]
theorem qcE_of {a b c d e : Int} (h : QB a b c d e) : qcE a b c d e = 0 := by
  have ha : toE a = 0 := rg_of h.ha.1 h.ha.2
  have hb : toE b = 0 := rg_of h.hb.1 h.hb.2
  have hc : toE c = 0 := rg_of h.hc.1 h.hc.2
  have hd : toE d = 0 := rg_of h.hd.1 h.hd.2
  have he : toE e = 0 := rg_of h.he.1 h.he.2
  have hs : b = baE c d e := by
    have kc := h.hc
    have kd := h.hd
    have ke := h.he
    have ks := h.hs
    unfold baE
    rw [wrapF_in (n := c + d) (by omega) (by omega), wrapF_in (by omega) (by omega)]
    exact ks
  unfold qcE
  rw [ha, hb, hc, hd, he, if_neg (by simp), if_pos hs]
structure PB (x y z : Int) : Prop where
  hx : 0 ≤ x ∧ x ≤ 10000
  hy : 0 ≤ y ∧ y ≤ 10000
  hz : 0 ≤ z ∧ z ≤ 10000
  xy : x ≤ y
  yz : y ≤ z
theorem pcE_a {x y z : Int} (h : pcE x y z = 0) : PB x y z := by
  unfold pcE at h
  have hx : prE x = 0 := by
    by_cases q : prE x = 0
    · exact q
    · rw [if_pos (by simp [q])] at h; cases h
  have hy : prE y = 0 := by
    by_cases q : prE y = 0
    · exact q
    · rw [if_pos (by simp [q])] at h; cases h
  have hz : prE z = 0 := by
    by_cases q : prE z = 0
    · exact q
    · rw [if_pos (by simp [q])] at h; cases h
  rw [if_neg (by simp [hx, hy, hz])] at h
  by_cases q : x ≤ y ∧ y ≤ z
  · exact ⟨rg_z hx, rg_z hy, rg_z hz, q.1, q.2⟩
  · rw [if_neg q] at h; cases h
theorem pcE_of {x y z : Int} (h : PB x y z) : pcE x y z = 0 := by
  have hx : prE x = 0 := rg_of h.hx.1 h.hx.2
  have hy : prE y = 0 := rg_of h.hy.1 h.hy.2
  have hz : prE z = 0 := rg_of h.hz.1 h.hz.2
  unfold pcE
  rw [if_neg (by simp [hx, hy, hz]), if_pos ⟨h.xy, h.yz⟩]
theorem mul_bd {x y A B : Int} (h1 : 0 ≤ x) (h2 : x ≤ A) (h3 : 0 ≤ y) (h4 : y ≤ B) (hA : 0 ≤ A) : 0 ≤ x * y ∧ x * y ≤ A * B := ⟨Int.mul_nonneg h1 h3, Int.mul_le_mul h2 h4 h3 hA⟩
/-- what is paid, without a wrap -/
theorem rvP_up {x y z o E : Int} (hp : PB x y z) (ho : 0 ≤ o ∧ o ≤ 6400000) (hE : 0 ≤ E ∧ E ≤ 6400000) (h : o ≤ E) : rvP x y z o E = y * o + x * (E - o) := by
  have b1 := mul_bd hp.hy.1 hp.hy.2 ho.1 ho.2 (by decide)
  have b2 := mul_bd (y := E - o) (B := 6400000) hp.hx.1 hp.hx.2 (by omega) (by omega) (by decide)
  unfold rvP
  rw [wrapF_in (n := E - o) (by omega) (by omega)]
  have k1 : mxP (E - o) = E - o := by unfold mxP; rw [if_neg (by omega)]
  have k2 : mnP (E - o) = 0 := by
    unfold mnP
    by_cases h2 : 0 < E - o
    · rw [if_pos h2]
    · rw [if_neg h2]; omega
  rw [k1, k2, Int.mul_zero]
  generalize y * o = A at *
  generalize x * (E - o) = B at *
  rw [wrapF_in (n := A) (by omega) (by omega), wrapF_in (n := B) (by omega) (by omega), wrapF_in (n := A + B) (by omega) (by omega), wrapF_in (n := 0) (by omega) (by omega), Int.add_zero, wrapF_in (by omega) (by omega)]
theorem rvP_dn {x y z o E : Int} (hp : PB x y z) (ho : 0 ≤ o ∧ o ≤ 6400000) (hE : 0 ≤ E ∧ E ≤ 6400000) (h : E < o) : rvP x y z o E = y * o - z * (o - E) := by
  have b1 := mul_bd hp.hy.1 hp.hy.2 ho.1 ho.2 (by decide)
  have b2 := mul_bd (y := o - E) (B := 6400000) hp.hz.1 hp.hz.2 (by omega) (by omega) (by decide)
  unfold rvP
  rw [wrapF_in (n := E - o) (by omega) (by omega)]
  have k1 : mxP (E - o) = 0 := by unfold mxP; rw [if_pos (by omega)]
  have k2 : mnP (E - o) = -(o - E) := by
    unfold mnP
    rw [if_neg (by omega)]; omega
  rw [k1, k2, Int.mul_zero, Int.mul_neg]
  generalize y * o = A at *
  generalize z * (o - E) = B at *
  rw [wrapF_in (n := A) (by omega) (by omega), wrapF_in (n := 0) (by omega) (by omega), Int.add_zero, wrapF_in (n := A) (by omega) (by omega), wrapF_in (n := -B) (by omega) (by omega), wrapF_in (by omega) (by omega)]
  omega
theorem rvP_bd {x y z o E : Int} (hp : PB x y z) (ho : 0 ≤ o ∧ o ≤ 6400000) (hE : 0 ≤ E ∧ E ≤ 6400000) : rvP x y z o E ≤ y * E ∧ -1000000000000 ≤ rvP x y z o E ∧ rvP x y z o E ≤ 1000000000000 := by
  have b1 := mul_bd hp.hy.1 hp.hy.2 ho.1 ho.2 (by decide)
  have b3 := mul_bd hp.hy.1 hp.hy.2 hE.1 hE.2 (by decide)
  by_cases h : o ≤ E
  · rw [rvP_up hp ho hE h]
    have b2 := mul_bd (y := E - o) (B := 6400000) hp.hx.1 hp.hx.2 (by omega) (by omega) (by decide)
    have h1 : x * (E - o) ≤ y * (E - o) := Int.mul_le_mul_of_nonneg_right hp.xy (by omega)
    rw [Int.mul_sub y E o] at h1
    generalize y * o = A at *
    generalize y * E = C at *
    generalize x * (E - o) = B at *
    omega
  · rw [rvP_dn hp ho hE (by omega)]
    have b2 := mul_bd (y := o - E) (B := 6400000) hp.hz.1 hp.hz.2 (by omega) (by omega) (by decide)
    have h1 : y * (o - E) ≤ z * (o - E) := Int.mul_le_mul_of_nonneg_right hp.yz (by omega)
    rw [Int.mul_sub y o E] at h1
    generalize y * o = A at *
    generalize y * E = C at *
    generalize z * (o - E) = B at *
    omega
theorem rvP_flat {y o E : Int} (hy : 0 ≤ y ∧ y ≤ 10000) (ho : 0 ≤ o ∧ o ≤ 6400000) (hE : 0 ≤ E ∧ E ≤ 6400000) : rvP y y y o E = y * E := by
  have hp : PB y y y := ⟨hy, hy, hy, Int.le_refl _, Int.le_refl _⟩
  by_cases h : o ≤ E
  · rw [rvP_up hp ho hE h, Int.mul_sub]; omega
  · rw [rvP_dn hp ho hE (by omega), Int.mul_sub]; omega
theorem rvP_self {x y z E : Int} (hp : PB x y z) (hE : 0 ≤ E ∧ E ≤ 6400000) : rvP x y z E E = y * E := by
  rw [rvP_up hp hE hE (Int.le_refl _), Int.sub_self, Int.mul_zero, Int.add_zero]
end Go.Proofs.YtafpmehhdcmllaaGreatDoor.Ways
noncomputable section
namespace Go.Proofs.YtafpmehhdcmllaaGreatDoor.Ways
open Go Go.Ex Go.RowKit
/-! ### MarketBooks: the loop's run, the law -/
theorem fst2_00 : fst2 0 0 = 0 := by decide
theorem amP_0 (r : Int) : amP 0 0 r = r := by
  unfold amP
  rw [if_pos fst2_00]
structure RowF (cs ps : List Value) (j : Nat) : Prop where
  q : QB (ce 5 0 cs j) (ce 5 1 cs j) (ce 5 2 cs j) (ce 5 3 cs j) (ce 5 4 cs j)
  p : PB (ce 3 0 ps j) (ce 3 1 ps j) (ce 3 2 ps j)
theorem rowF {cs ps : List Value} {n : Nat} (h : csE cs ps n n = 0) : ∀ j, j < n → RowF cs ps j := by
  obtain ⟨h1, h2, _⟩ := csE_eq0 h
  intro j hj
  exact ⟨qcE_a (days_z (e := eQ cs) h1 j hj), pcE_a (days_z (e := eP ps) h2 j hj)⟩
section
variable {cs ps : List Value} {j : Nat}
def enJ (cs : List Value) (j : Nat) : Int := ce 5 4 cs j + ce 5 2 cs j
theorem enJ_bd (h : RowF cs ps j) : 0 ≤ enJ cs j ∧ enJ cs j ≤ 6400000 := by
  have h1 := h.q.hb
  have h2 := h.q.hc
  have h3 := h.q.hd
  have h4 := h.q.he
  have h5 := h.q.hs
  unfold enJ
  omega
theorem en_J (h : RowF cs ps j) : enE (ce 5 2 cs j) (ce 5 4 cs j) = enJ cs j := by
  have h1 := enJ_bd h
  unfold enE
  exact wrapF_in (n := ce 5 4 cs j + ce 5 2 cs j) (by unfold enJ at h1; omega) (by unfold enJ at h1; omega)
theorem yo_J (h : RowF cs ps j) (am dv av : Int) : yoE cs ((j : Int), am, dv, av) = enJ cs j := en_J h
theorem qy_0 (h : RowF cs ps j) (am dv av : Int) : qyE cs ((j : Int), am, dv, av) = 0 := by
  have h1 := yo_J h am dv av
  unfold qyE
  rw [h1]
  exact qcE_of ⟨enJ_bd h, h.q.hb, h.q.hc, h.q.hd, h.q.he, h.q.hs⟩
theorem eQ_0 (h : RowF cs ps j) : eQ cs j = 0 := qcE_of h.q
theorem eP_0 (h : RowF cs ps j) : eP ps j = 0 := pcE_of h.p
theorem py_0 (h : RowF cs ps j) (am dv av : Int) : pyE ps ((j : Int), am, dv, av) = 0 := pcE_of ⟨h.p.hy, h.p.hy, h.p.hy, Int.le_refl _, Int.le_refl _⟩
theorem sp_J (h : RowF cs ps j) (am dv av : Int) : spE cs ps ((j : Int), am, dv, av) = ce 3 1 ps j * enJ cs j := by
  have h1 := yo_J h am dv av
  have h2 := enJ_bd h
  have h3 := mul_bd h.p.hy.1 h.p.hy.2 h2.1 h2.2 (by decide)
  unfold spE
  rw [h1]
  exact wrapF_in (n := ce 3 1 ps j * enJ cs j) (by omega) (by omega)
theorem ex_J (h : RowF cs ps j) (am dv av : Int) : exE cs ps ((j : Int), am, dv, av) = ce 3 1 ps j * enJ cs j := by
  have h1 := yo_J h am dv av
  unfold exE
  rw [qy_0 h, h1]
  show amP 0 (eP ps j) (rvP (ce 3 0 ps j) (ce 3 1 ps j) (ce 3 2 ps j) (enJ cs j) (enE (ce 5 2 cs j) (ce 5 4 cs j))) = _
  rw [eP_0 h, amP_0, en_J h]
  exact rvP_self h.p (enJ_bd h)
theorem fl_J (h : RowF cs ps j) (am dv av : Int) : flE cs ps ((j : Int), am, dv, av) = ce 3 1 ps j * enJ cs j := by
  unfold flE
  rw [py_0 h]
  show amP (eQ cs j) 0 (rvP (ce 3 1 ps j) (ce 3 1 ps j) (ce 3 1 ps j) (ce 5 0 cs j) (enE (ce 5 2 cs j) (ce 5 4 cs j))) = _
  rw [eQ_0 h, amP_0, en_J h]
  exact rvP_flat h.p.hy h.q.ha (enJ_bd h)
theorem qP_bd (h : RowF cs ps j) : qP cs ps j ≤ ce 3 1 ps j * enJ cs j ∧ -1000000000000 ≤ qP cs ps j ∧ qP cs ps j ≤ 1000000000000 := by
  unfold qP
  rw [en_J h]
  exact rvP_bd h.p h.q.ha (enJ_bd h)
theorem qd_J (h : RowF cs ps j) : qd cs j = ce 5 4 cs j + ce 5 2 cs j - ce 5 0 cs j := by
  have h1 := enJ_bd h
  have h2 := h.q.ha
  unfold enJ at h1
  unfold qd dvE
  rw [wrapF_in (n := ce 5 4 cs j + ce 5 2 cs j) (by omega) (by omega), wrapF_in (by omega) (by omega)]
end
def qJ (cs ps : List Value) (N j : Nat) : QL := ((j : Int), sumW (ce 2 1 (rsS cs ps N)) j, sumW (ce 2 0 (rsS cs ps N)) j, sumW (ce 5 1 cs) j)
theorem isI_rs (f : Nat → Int × Int) {n j : Nat} (h : j < n) : isI (rwL f n) (0 + j * 2 + 1) = true ∧ isI (rwL f n) (0 + j * 2 + 0) = true := by
  obtain ⟨h1, h2⟩ := rwL_get f n j h
  unfold isI
  rw [show 0 + j * 2 + 0 = 0 + j * 2 from rfl, h1, h2]
  exact ⟨rfl, rfl⟩
theorem run12 {cs ps : List Value} {N l1 l0 : Nat} {ρ : List Nat} (hc : rawQ cs N) (hp : rawP ps N) (hn : N < 1000000) (h : csE cs ps N N = 0) : runS (st12 cs ps (rsS cs ps N) N N l1 l0 ρ) (N + 1) (0, 0, 0, 0) = some (0, qJ cs ps N N) := by
  refine run_all (step := st12 cs ps (rsS cs ps N) N N l1 l0 ρ) (st := qJ cs ps N) (a := 0) N (fun j hj => ?_) ?_
  · have hr := rowF h j hj
    have i1 : isI (rsS cs ps N) (0 + j * 2 + 1) = true := (isI_rs (fP cs ps) hj).1
    have i2 : isI (rsS cs ps N) (0 + j * 2 + 0) = true := (isI_rs (fP cs ps) hj).2
    have hb : bnd_ (j : Int) N N = true := bnd_t hj (Nat.le_refl N)
    have ho : okR15 ps N (j : Int) = true := by
      unfold okR15
      rw [hb, cR_t (okP_of hp hn) hj]; rfl
    have hy := enJ_bd hr
    have hce : ce 2 1 (rsS cs ps N) j = qP cs ps j := (rwL_ce (fP cs ps) hj).2
    have hle := (qP_bd hr).1
    have e1 := yo_J hr (sumW (ce 2 1 (rsS cs ps N)) j) (sumW (ce 2 0 (rsS cs ps N)) j) (sumW (ce 5 1 cs) j)
    have e2 := qy_0 hr (sumW (ce 2 1 (rsS cs ps N)) j) (sumW (ce 2 0 (rsS cs ps N)) j) (sumW (ce 5 1 cs) j)
    have e3 := py_0 hr (sumW (ce 2 1 (rsS cs ps N)) j) (sumW (ce 2 0 (rsS cs ps N)) j) (sumW (ce 5 1 cs) j)
    have e4 := sp_J hr (sumW (ce 2 1 (rsS cs ps N)) j) (sumW (ce 2 0 (rsS cs ps N)) j) (sumW (ce 5 1 cs) j)
    have e5 := ex_J hr (sumW (ce 2 1 (rsS cs ps N)) j) (sumW (ce 2 0 (rsS cs ps N)) j) (sumW (ce 5 1 cs) j)
    have e6 := fl_J hr (sumW (ce 2 1 (rsS cs ps N)) j) (sumW (ce 2 0 (rsS cs ps N)) j) (sumW (ce 5 1 cs) j)
    unfold st12 qJ
    dsimp only
    rw [show ((j : Nat) : Int).toNat = j from rfl]
    rw [br_t (by rw [ltF_eq]; simpa using hj), askS_sel hb, askS_sel (cR_t (okQ_of hc hn) hj), askS_sel hb, askS_sel i1, askS_sel hb, askS_sel i2, askS_sel ho, e1, br_f (by rw [ltF_eq]; exact decide_eq_false (by omega)), e2, eP_0 hr, br_f (ne_f fst2_00), eQ_0 hr, e3, br_f (ne_f fst2_00), e5, e4, br_f (by rw [eqF_t]; rfl), e6, br_f (by rw [eqF_t]; rfl), askS_sel hb, askS_sel i1, hce, br_f (by rw [ltF_eq]; exact decide_eq_false (by omega)), wsucc (by omega)]
    show some (Sum.inl (((j + 1 : Nat) : Int), wrapF .i64 (sumW (ce 2 1 (rsS cs ps N)) j + ce 2 1 (rsS cs ps N) j), wrapF .i64 (sumW (ce 2 0 (rsS cs ps N)) j + ce 2 0 (rsS cs ps N) j), wrapF .i64 (sumW (ce 5 1 cs) j + ce 5 1 cs j))) = _
    rfl
  · unfold st12 qJ
    dsimp only
    rw [br_f (by rw [ltF_eq]; simp)]; rfl
/-! the comparisons -/
theorem bdI {x : Int} (h : 0 ≤ x ∧ x ≤ 6400000) : -1000000000000 ≤ x ∧ x ≤ 1000000000000 := by omega
theorem eq6_of {p q : Q6} (h1 : p.2.1 = q.2.1) (h2 : p.2.2.1 = q.2.2.1) (h3 : p.2.2.2.1 = q.2.2.2.1) (h4 : p.2.2.2.2.1 = q.2.2.2.2.1) (h5 : p.2.2.2.2.2 = q.2.2.2.2.2) : eq6 p q = true := by
  unfold eq6
  rw [h1, h2, h3, h4, h5]
  simp
theorem endB_sel {cs ps : List Value} {N : Nat} (hn : N ≤ 96) (h : csE cs ps N N = 0) : (endB (qJ cs ps N N) (bkP cs ps N)).sel = some (b_ true) := by
  have hr := rowF h
  have ba := fun j hj => bdI (hr j hj).q.ha
  have bb := fun j hj => bdI (hr j hj).q.hb
  have bc := fun j hj => bdI (hr j hj).q.hc
  have bd := fun j hj => bdI (hr j hj).q.hd
  have be := fun j hj => bdI (hr j hj).q.he
  have sa := sumI_bd (f := ce 5 0 cs) (n := N) ba
  have sc := sumI_bd (f := ce 5 2 cs) (n := N) bc
  have sd := sumI_bd (f := ce 5 3 cs) (n := N) bd
  have se := sumI_bd (f := ce 5 4 cs) (n := N) be
  have k2 : sumW (ce 2 0 (rsS cs ps N)) N = sumI (ce 5 4 cs) N + sumI (ce 5 2 cs) N - sumI (ce 5 0 cs) N := by
    have e : ∀ j, j < N → ce 2 0 (rsS cs ps N) j = ce 5 4 cs j + ce 5 2 cs j - ce 5 0 cs j := fun j hj => ((rwL_ce (fP cs ps) hj).1).trans (qd_J (hr j hj))
    rw [sumW_I hn fun j hj => by
      rw [e j hj]
      have h1 := (hr j hj).q.ha
      have h2 := (hr j hj).q.hc
      have h3 := (hr j hj).q.he
      omega]
    exact sumI_d e
  have k3 : sumW (ce 5 1 cs) N = sumI (ce 5 4 cs) N + sumI (ce 5 2 cs) N + sumI (ce 5 3 cs) N := by
    rw [sumW_I hn bb]
    exact sumI_3 fun j hj => by have := (hr j hj).q.hs; omega
  unfold endB
  show (VT.br (eqF (sumW (ce 2 1 (rsS cs ps N)) N) (sumW (ce 2 1 (rsS cs ps N)) N)) (.br (eqF (sumW (ce 2 0 (rsS cs ps N)) N) (wrapF .i64 (wrapF .i64 (sumW (ce 5 4 cs) N + sumW (ce 5 2 cs) N) - sumW (ce 5 0 cs) N))) (.br (eqF (sumW (ce 5 1 cs) N) (wrapF .i64 (wrapF .i64 (sumW (ce 5 4 cs) N + sumW (ce 5 2 cs) N) + sumW (ce 5 3 cs) N))) lt12 lf12) lf12) lf12).sel = _
  rw [vb_t (eqF_t _), k2, k3, sumW_I hn ba, sumW_I hn bc, sumW_I hn bd, sumW_I hn be]
  generalize sumI (ce 5 0 cs) N = A at *
  generalize sumI (ce 5 2 cs) N = C at *
  generalize sumI (ce 5 3 cs) N = D at *
  generalize sumI (ce 5 4 cs) N = E at *
  rw [wrapF_in (n := E + C) (by omega) (by omega), wrapF_in (n := E + C - A) (by omega) (by omega), wrapF_in (n := E + C + D) (by omega) (by omega), vb_t (eqF_t _), vb_t (eqF_t _)]; rfl
end Go.Proofs.YtafpmehhdcmllaaGreatDoor.Ways
noncomputable section
namespace Go.Proofs.YtafpmehhdcmllaaGreatDoor.Ways
open Go Go.Ex Go.RowKit
/-! ### MarketBooks: the law is true -/
theorem XE_bd {at8 : Int} {N : Nat} (h : 0 ≤ at8 ∧ at8 ≤ 255) (hn : N ≤ 8) : 0 ≤ XE at8 N ∧ XE at8 N ≤ N := by
  unfold XE
  have h1 : IntKind.i64.wrap at8 = at8 := by rw [IntKind.wrap_i64]; omega
  rw [h1, wrapF_in (n := (N : Int) + 1) (by omega) (by omega)]
  have h2 := Int.tmod_nonneg (a := at8) ((N : Int) + 1) h.1
  have h3 := Int.tmod_lt_of_pos at8 (b := (N : Int) + 1) (by omega)
  omega
/-- the totals of a list are those of its parts -/
theorem parts_eq {cs ps : List Value} {N k : Nat} (hk : k ≤ N) (hn : N ≤ 96) (h : csE cs ps N N = 0) : eq6 (bkP cs ps N) (sm6 (bkP (ptO 5 cs 0 k) (ptO 3 ps 0 k) k) (bkP (ptO 5 cs (0 + k * 5) (N - k)) (ptO 3 ps (0 + k * 3) (N - k)) (N - k))) = true := by
  have hr := rowF h
  have e0 : (0 : Nat) = 0 * 5 := rfl
  have z0 : (0 : Nat) = 0 * 3 := rfl
  have e1 : 0 + k * 5 = k * 5 := Nat.zero_add _
  have z1 : 0 + k * 3 = k * 3 := Nat.zero_add _
  have col : ∀ c, c < 5 → (∀ j, j < N → 0 ≤ ce 5 c cs j ∧ ce 5 c cs j ≤ 6400000) → sumW (ce 5 c cs) N = wrapF .i64 (sumW (ce 5 c (ptO 5 cs 0 k)) k + sumW (ce 5 c (ptO 5 cs (0 + k * 5) (N - k))) (N - k)) := fun c hc hb =>
    sum_parts hk hn (fun j hj => bdI (hb j hj)) (fun j hj => by rw [ce_pt e0 hj hc, Nat.zero_add]) (fun j hj => ce_pt e1 hj hc)
  refine eq6_of ?_ ?_ ?_ ?_ ?_
  · exact col 0 (by omega) fun j hj => (hr j hj).q.ha
  · exact col 4 (by omega) fun j hj => (hr j hj).q.he
  · exact col 2 (by omega) fun j hj => (hr j hj).q.hc
  · exact col 3 (by omega) fun j hj => (hr j hj).q.hd
  · have g : ∀ (a b : List Value) (n j : Nat), j < n → ce 2 1 (rwL (fP a b) n) j = qP a b j := fun a b n j hj => (rwL_ce (fP a b) hj).2
    show sumW (ce 2 1 (rwL (fP cs ps) N)) N = wrapF .i64 (sumW (ce 2 1 (rwL (fP (ptO 5 cs 0 k) (ptO 3 ps 0 k)) k)) k + sumW (ce 2 1 (rwL (fP (ptO 5 cs (0 + k * 5) (N - k)) (ptO 3 ps (0 + k * 3) (N - k))) (N - k))) (N - k))
    rw [sumW_ext (g cs ps N)]
    refine sum_parts hk hn (fun j hj => (qP_bd (hr j hj)).2) (fun j hj => ?_) fun j hj => ?_
    · rw [g _ _ _ _ hj]
      unfold qP
      rw [ce_pt e0 hj (by omega), ce_pt e0 hj (by omega), ce_pt e0 hj (by omega), ce_pt z0 hj (by omega), ce_pt z0 hj (by omega), ce_pt z0 hj (by omega), Nat.zero_add]
    · rw [g _ _ _ _ hj]
      unfold qP
      rw [ce_pt e1 hj (by omega), ce_pt e1 hj (by omega), ce_pt e1 hj (by omega), ce_pt z1 hj (by omega), ce_pt z1 hj (by omega), ce_pt z1 hj (by omega)]
section
variable {cs ps : List Value} {N M : Nat}
theorem ne_eqF {a b : Int} (h : a = b) : (!eqF a b) = false := by rw [h, eqF_t]; rfl
theorem main12_sel {p1 p2 : Q6} (hc : rawQ cs N) (hp : rawP ps N) (h1 : 1 ≤ N) (hn : N ≤ 8) (h : csE cs ps N N = 0) (he : eq6 (bkP cs ps N) (sm6 p1 p2) = true) : (mainB12 cs ps N N (qJ cs ps N N) p1 p2).sel = some (b_ true) := by
  have kq := okQ_of hc (by omega)
  have kp := okP_of hp (by omega)
  have w7 : CmE k5 5 cs N N := ⟨kq, h1, by omega, hc.2.1⟩
  have w8 : CmE k3 3 ps N N := ⟨kp, h1, by omega, hp.2.1⟩
  have w6 : GoE cs ps N N N N := ⟨⟨kq, kp⟩, h, by omega⟩
  unfold mainB12
  rw [aP w7, aP w8, aP w6, aP w7, aP w8, aP w6, vb_f (by kernel_rfl), vb_f (ne_eqF rfl), vb_f (by rw [he]; rfl), aV_sel rfl]
  exact endB_sel (by omega) h
/-- the law's tree, if the rest is true where it is reached -/
theorem law12_sel {T : VT} (hc : rawQ cs N) (hp : rawP ps M) (hm : M < 1000000) (hT : N ≤ 8 → csE cs ps N M = 0 → T.sel = some (b_ true)) : (lawB12 cs ps N M T).sel = some (b_ true) := by
  unfold lawB12
  by_cases h8 : 8 < N
  · rw [vb_t (by rw [ltF_eq]; exact decide_eq_true (by omega))]; rfl
  · rw [vb_f (by rw [ltF_eq]; exact decide_eq_false (by omega)), aP ⟨okQ_of hc (by omega), okP_of hp hm⟩]
    by_cases h : csE cs ps N M = 0
    · rw [vb_f (ne_f h), aV_sel (by rw [wrapF_in (n := (N : Int) + 1) (by omega) (by omega)]; exact ne_t (by omega))]
      exact hT (by omega) h
    · rw [vb_t (ne_t h)]; rfl
end
end Go.Proofs.YtafpmehhdcmllaaGreatDoor.Ways
noncomputable section
namespace Go.Proofs.YtafpmehhdcmllaaGreatDoor.Ways
open Go Go.Ex Go.RowKit
/-! ### MarketBooks: the law is true, put together -/
theorem nilQ' : rawQ [] 0 := ⟨rfl, rfl, fun j hj => by omega⟩
theorem nilP' : rawP [] 0 := ⟨rfl, rfl, fun j hj => by omega⟩
theorem okP_big {ps : List Value} {M : Nat} (h : rawP ps M) (hm : M < 9223372036854775808) : okR k3 3 ps M M := ⟨h.1, Nat.le_refl _, by omega, h.2.2⟩
theorem law12_any {cs ps : List Value} {N M : Nat} {T : VT} (hc : rawQ cs N) (hp : rawP ps M) (hm : M < 9223372036854775808) (hT : N ≤ 8 → csE cs ps N M = 0 → T.sel = some (b_ true)) : (lawB12 cs ps N M T).sel = some (b_ true) := by
  unfold lawB12
  by_cases h8 : 8 < N
  · rw [vb_t (by rw [ltF_eq]; exact decide_eq_true (by omega))]; rfl
  · rw [vb_f (by rw [ltF_eq]; exact decide_eq_false (by omega)), aP ⟨okQ_of hc (by omega), okP_big hp hm⟩]
    by_cases h : csE cs ps N M = 0
    · rw [vb_f (ne_f h), aV_sel (by rw [wrapF_in (n := (N : Int) + 1) (by omega) (by omega)]; exact ne_t (by omega))]
      exact hT (by omega) h
    · rw [vb_t (ne_t h)]; rfl
section
variable {cs ps : List Value} {t s N t2 s2 M : Nat} {ex e2 : Bool} {at8 : Int}
theorem books_true (hat : 0 ≤ at8 ∧ at8 ≤ 255) (hc : rawQ cs N) (hp : rawP ps M) (hm : M < 9223372036854775808) : ∃ H', Sound Tryz.prog 6 (.call 12 ⟨[sl 4 0 N N, sl 5 0 M M, .int .u8 at8]⟩ (heapL (hA ++ [.cells cs t s ex, .cells ps t2 s2 e2]))) (.val (b_ true) H') := by
  by_cases hg : N ≤ 8 ∧ csE cs ps N M = 0
  case neg =>
    obtain ⟨H', h'⟩ := Out.vals_sel (yLn cs ps N M at8 t s t2 s2 ex e2) (v := b_ true) (by
      rw [wLn]
      exact law12_any hc hp hm fun h1 h2 => absurd ⟨h1, h2⟩ hg)
    exact ⟨H', execO_sound (C := ⟨T12, spN, syL, noL⟩) ts12 .none 80 _ _ h'⟩
  case pos =>
    obtain ⟨hn, h0⟩ := hg
    obtain rfl : N = M := (csE_eq0 h0).2.2
    by_cases hz : N = 0
    · subst hz
      have hcs : cs = [] := List.length_eq_zero_iff.1 (by have := hc.2.1; omega)
      have hps : ps = [] := List.length_eq_zero_iff.1 (by have := hp.2.1; omega)
      subst hcs
      subst hps
      have hX := XE_bd (N := 0) hat (by omega)
      have hX0 : (XE at8 0).toNat = 0 := by omega
      have z5 : CzO k5 5 0 [] (XE at8 0).toNat 0 := ⟨⟨rfl, by omega, by omega, fun j hj => by omega⟩, hX0⟩
      have z3 : CzO k3 3 0 [] (XE at8 0).toNat 0 := ⟨⟨rfl, by omega, by omega, fun j hj => by omega⟩, hX0⟩
      have y5 : CzO k5 5 (0 + (XE at8 0).toNat * 5) [] (0 - (XE at8 0).toNat) (0 - (XE at8 0).toNat) := ⟨⟨rfl, Nat.le_refl _, by omega, fun j hj => by omega⟩, by omega⟩
      have y3 : CzO k3 3 (0 + (XE at8 0).toNat * 3) [] (0 - (XE at8 0).toNat) (0 - (XE at8 0).toNat) := ⟨⟨rfl, Nat.le_refl _, by omega, fun j hj => by omega⟩, by omega⟩
      have l5 : LSound Tryz.prog 6 (L5y [] [] 0 0 (XE at8 0) t s t2 s2 ex e2 noL) := ls5y [] [] 0 0 _ t s t2 s2 ex e2 .none rfl rfl ⟨hX.1, hX.2, hX.2, z5, z3⟩
      have l6 := ls6y [] [] 0 0 (XE at8 0) t s t2 s2 ex e2 l5 rfl rfl ⟨hX.1, hX.2, hX.2, y5, y3⟩
      obtain ⟨H', h'⟩ := Out.vals_sel (yL0 at8 t s t2 s2 ex e2) (v := b_ true) (by
        rw [wL0]
        have kq := okQ_of nilQ' (by omega)
        have kp := okP_of nilP' (by omega)
        unfold lawZ
        rw [aP ⟨kq, kp⟩, aV_sel (by kernel_rfl), aP ⟨kq, rfl⟩, aP ⟨kp, rfl⟩, aP ⟨kq, rfl⟩, aP ⟨kp, rfl⟩, aP (okI2 _ _), aP (okI2 _ _), aP (okI3 _ _ _)]; rfl)
      exact ⟨H', execO_sound (C := ⟨T0n, sp0n, syL, _⟩) ts0n l6 80 _ _ h'⟩
    · have hX := XE_bd (N := N) hat hn
      have hXt : ((XE at8 N).toNat : Int) = XE at8 N := Int.toNat_of_nonneg hX.1
      have hk : (XE at8 N).toNat ≤ N := by omega
      have hpe := parts_eq hk (by omega : N ≤ 96) h0
      have e0 : (0 : Nat) = 0 * 5 := rfl
      have z0 : (0 : Nat) = 0 * 3 := rfl
      have e1 : 0 + (XE at8 N).toNat * 5 = (XE at8 N).toNat * 5 := Nat.zero_add _
      have z1 : 0 + (XE at8 N).toNat * 3 = (XE at8 N).toNat * 3 := Nat.zero_add _
      have hN96 : N ≤ 96 := by omega
      have o5 : okO k5 5 0 cs (XE at8 N).toNat N := okO_q hc e0 (by omega) hk hN96
      have o3 : okO k3 3 0 ps (XE at8 N).toNat N := okO_p hp z0 (by omega) hk hN96
      have r5 : okO k5 5 (0 + (XE at8 N).toNat * 5) cs (N - (XE at8 N).toNat) (N - (XE at8 N).toNat) := okO_q hc e1 (by omega) (Nat.le_refl _) hN96
      have r3 : okO k3 3 (0 + (XE at8 N).toNat * 3) ps (N - (XE at8 N).toNat) (N - (XE at8 N).toNat) := okO_p hp z1 (by omega) (Nat.le_refl _) hN96
      have g5 := GoE_pt hc hp h0 e0 z0 (show 0 + (XE at8 N).toNat ≤ N by omega) hN96
      have g6 := GoE_pt hc hp h0 e1 z1 (show (XE at8 N).toNat + (N - (XE at8 N).toNat) ≤ N by omega) hN96
      have f1 := hc.1
      have f2 := hp.1
      by_cases hx0 : (XE at8 N).toNat = 0
      · have l5 : LSound Tryz.prog 6 (L5z cs ps N N (XE at8 N) t s t2 s2 ex e2 noL) := ls5z cs ps N N _ t s t2 s2 ex e2 .none f1 f2 ⟨hX.1, hX.2, hX.2, ⟨o5, hx0⟩, ⟨o3, hx0⟩⟩
        have l6 := ls6b cs ps N N (XE at8 N) t s t2 s2 ex e2 l5 f1 f2 ⟨hX.1, hX.2, hX.2, ⟨r5, by omega, by omega⟩, ⟨r3, by omega, by omega⟩, g6⟩
        have hL := (L12b (cs := cs) (ps := ps) (rs := rsS cs ps N) (N := N) (M := N) (tq := bkP cs ps N) (t := t) (s := s) (t2 := t2) (s2 := s2) (ex := ex) (e2 := e2) f1 f2 (rwL_flat _ _)).table (id := 12) l6 (by decide) trivial (run12 hc hp (by omega) h0) (by kernel_rfl) [0]
        obtain ⟨H', h'⟩ := Out.vals_sel (yLb cs ps N N at8 (qJ cs ps N N) t s t2 s2 ex e2) (v := b_ true) (by
          rw [wLb]
          refine law12_any hc hp hm fun _ _ => main12_sel hc hp (by omega) hn h0 ?_
          rw [hx0] at hpe
          unfold q2
          rw [hx0]
          exact hpe)
        exact ⟨H', execO_sound (C := ⟨T12, spL, syL, _⟩) ts12 hL 80 _ _ h'⟩
      · by_cases hxN : (XE at8 N).toNat = N
        · have l5 : LSound Tryz.prog 6 (L5 cs ps N N (XE at8 N) t s t2 s2 ex e2 noL) := ls5 cs ps N N _ t s t2 s2 ex e2 .none f1 f2 ⟨hX.1, hX.2, hX.2, ⟨o5, by omega, by omega⟩, ⟨o3, by omega, by omega⟩, g5⟩
          have l6 := ls6z cs ps N N (XE at8 N) t s t2 s2 ex e2 l5 f1 f2 ⟨hX.1, hX.2, hX.2, ⟨r5, by omega⟩, ⟨r3, by omega⟩⟩
          have hL := (L12b (cs := cs) (ps := ps) (rs := rsS cs ps N) (N := N) (M := N) (tq := bkP cs ps N) (t := t) (s := s) (t2 := t2) (s2 := s2) (ex := ex) (e2 := e2) f1 f2 (rwL_flat _ _)).table (id := 12) l6 (by decide) trivial (run12 hc hp (by omega) h0) (by kernel_rfl) [0]
          obtain ⟨H', h'⟩ := Out.vals_sel (yLc cs ps N N at8 (qJ cs ps N N) t s t2 s2 ex e2) (v := b_ true) (by
            rw [wLc]
            refine law12_any hc hp hm fun _ _ => main12_sel hc hp (by omega) hn h0 ?_
            have hz2 : N - (XE at8 N).toNat = 0 := by omega
            rw [hz2] at hpe
            exact hpe)
          exact ⟨H', execO_sound (C := ⟨T12, spL, syL, _⟩) ts12 hL 80 _ _ h'⟩
        · have l5 : LSound Tryz.prog 6 (L5 cs ps N N (XE at8 N) t s t2 s2 ex e2 noL) := ls5 cs ps N N _ t s t2 s2 ex e2 .none f1 f2 ⟨hX.1, hX.2, hX.2, ⟨o5, by omega, by omega⟩, ⟨o3, by omega, by omega⟩, g5⟩
          have l6 := ls6a cs ps N N (XE at8 N) t s t2 s2 ex e2 l5 f1 f2 ⟨hX.1, hX.2, hX.2, ⟨r5, by omega, by omega⟩, ⟨r3, by omega, by omega⟩, g6⟩
          have hL := (L12a (cs := cs) (ps := ps) (rs := rsS cs ps N) (N := N) (M := N) (tq := bkP cs ps N) (t := t) (s := s) (t2 := t2) (s2 := s2) (ex := ex) (e2 := e2) f1 f2 (rwL_flat _ _)).table (id := 12) l6 (by decide) trivial (run12 hc hp (by omega) h0) (by kernel_rfl) [0]
          obtain ⟨H', h'⟩ := Out.vals_sel (yLa cs ps N N at8 (qJ cs ps N N) t s t2 s2 ex e2) (v := b_ true) (by
            rw [wLa]
            exact law12_any hc hp hm fun _ _ => main12_sel hc hp (by omega) hn h0 hpe)
          exact ⟨H', execO_sound (C := ⟨T12, spL, syL, _⟩) ts12 hL 80 _ _ h'⟩
end
end Go.Proofs.YtafpmehhdcmllaaGreatDoor.Ways
