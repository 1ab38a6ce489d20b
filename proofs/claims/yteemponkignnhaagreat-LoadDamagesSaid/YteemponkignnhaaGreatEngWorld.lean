/- Part of the proof. -/
import Derived.Test.YteemponkignnhaaGreatEngVal
import Derived.Test.YteemponkignnhaaGreatEngTree
noncomputable section
namespace Go.Ex
open Go.RowKit
inductive CO where
  | cells (cs : List Value) (t : TypeId) (s : Nat) (ex : Bool)
  | loop (l : Loop)
  | dfr (taken : Bool)
  | iter (s : ByteArray) (pos : Nat)
  | map (es : List MapEntry) (clock : Nat)
  | dead
abbrev CH := Hp CO
def CO.alive : CO → Bool
  | .dead => false
  | _ => true
structure ER (E : Env) (m m' : MapEntry) : Prop where
  key : m'.key = m.key
  val : VR E m.val m'.val
  born : m'.born = m.born
def OR (E : Env) (e : En) (w : World) : CO → Prop
  | .cells cs t s ex => ∃ (arr : Array Value) (fz : Nat × Nat), w.heap[e.blk]? = some (.cells arr t fz) ∧ (fz = (0, 0) ∨ arr.size ≤ fz.1) ∧ arr.size = e.sh + cs.length + e.dl * s ∧
      (∀ (i : Nat) (x : Value), cs[i]? = some x → ∃ x', arr[e.sh + i]? = some x' ∧ VR E x x') ∧ (ex = true → e.dl = 0 ∧ e.sh = 0)
  | .loop l => ∃ (tmps : Array Value) (d : En) (fn : FuncId), w.heap[e.blk]? = some (.loop { l with tmps := tmps, defers := d.blk, fn := fn }) ∧ VRs E l.tmps tmps ∧ E[l.defers]? = some d
  | .dfr taken => w.heap[e.blk]? = some (.deferred (if taken then none else some []))
  | .iter s pos => w.heap[e.blk]? = some (.stringIter s pos) ∧ e.sh = 0
  | .map es clock => ∃ es' : Array MapEntry, w.heap[e.blk]? = some (.map es' clock) ∧ es.length = es'.size ∧ ∀ (i : Nat) (m : MapEntry), es[i]? = some m → ∃ m', es'[i]? = some m' ∧ ER E m m'
  | .dead => True
def ORg (p : Prop) (E : Env) (e : En) (w : World) : CO → Prop
  | .cells cs t s ex => (cs = [] ∧ ex = false ∧ ¬ p ∧ (w.heap[e.blk]?).isSome = true) ∨ ∃ (arr : Array Value) (fz : Nat × Nat), w.heap[e.blk]? = some (.cells arr t fz) ∧ (p → fz = (0, 0) ∨ arr.size ≤ fz.1) ∧ (p → arr.size = e.sh + cs.length + e.dl * s) ∧
      (∀ (i : Nat) (x : Value), cs[i]? = some x → ∃ x', arr[e.sh + i]? = some x' ∧ VR E x x') ∧ (ex = true → e.dl = 0 ∧ e.sh = 0 ∧ arr.size = cs.length)
  | o => OR E e w o
theorem OR.gen {E : Env} {e : En} {w : World} {o : CO} (p : Prop) (h : OR E e w o) : ORg p E e w o := by
  cases o with
  | cells cs t s ex => obtain ⟨arr, fz, h1, h2, h3, h4, h5⟩ := h; exact .inr ⟨arr, fz, h1, fun _ => h2, fun _ => h3, h4, fun hx => ⟨(h5 hx).1, (h5 hx).2, by rw [h3, (h5 hx).1, (h5 hx).2]; omega⟩⟩
  | _ => exact h
theorem ORg.full {p : Prop} {E : Env} {e : En} {w : World} {o : CO} (h : ORg p E e w o) (hp : p) : OR E e w o := by
  cases o with
  | cells cs t s ex =>
    rcases h with ⟨_, _, hn, _⟩ | ⟨arr, fz, h1, h2, h3, h4, h5⟩
    · exact absurd hp hn
    · exact ⟨arr, fz, h1, h2 hp, h3 hp, h4, fun hx => ⟨(h5 hx).1, (h5 hx).2.1⟩⟩
  | _ => exact h
theorem ORg.weak {p q : Prop} {E : Env} {e : En} {w : World} {o : CO} (h : ORg p E e w o) (hq : q → p) : ORg q E e w o := by
  cases o with
  | cells cs t s ex =>
    rcases h with ⟨h1, h2, hn, h4⟩ | ⟨arr, fz, h1, h2, h3, h4, h5⟩
    · exact .inl ⟨h1, h2, fun x => hn (hq x), h4⟩
    · exact .inr ⟨arr, fz, h1, fun x => h2 (hq x), fun x => h3 (hq x), h4, h5⟩
  | _ => exact h
structure WR (w0 : World) (G : Nat) (E : Env) (H : CH) (w : World) : Prop where
  len : E.length = H.length
  glen : G ≤ E.length
  below : Below w0.heap.size w0 w
  obj : ∀ (b : Nat) (o : CO) (e : En), H[b]? = some o → E[b]? = some e → ORg (G ≤ b) E e w o
  inj : ∀ (b b' : Nat) (o o' : CO) (e e' : En), G ≤ b ∨ G ≤ b' → H[b]? = some o → H[b']? = some o' → E[b]? = some e → E[b']? = some e' → o.alive = true → o'.alive = true → e.blk = e'.blk → b = b'
  new : ∀ (b : Nat) (o : CO) (e : En), H[b]? = some o → E[b]? = some e → o.alive = true → G ≤ b → w0.heap.size ≤ e.blk ∧ e.blk < w.heap.size
  old : gl ≤ G ∧ ∀ (b : Nat) (e : En), b < gl → E[b]? = some e → e = ⟨b, 0, 0⟩
theorem ER.mono {E : Env} (F : Env) {m m' : MapEntry} (h : ER E m m') : ER (E ++ F) m m' := ⟨h.key, h.val.mono F, h.born⟩
theorem OR.mono {E : Env} (F : Env) {e : En} {w : World} {o : CO} (h : OR E e w o) : OR (E ++ F) e w o := by
  cases o with
  | cells cs t s ex =>
    obtain ⟨arr, fz, h1, h2, h3, h4, h5⟩ := h
    exact ⟨arr, fz, h1, h2, h3, fun i x hx => by obtain ⟨x', a, b⟩ := h4 i x hx; exact ⟨x', a, b.mono F⟩, h5⟩
  | loop l => obtain ⟨tmps, d, fn, h1, h2, h3⟩ := h; exact ⟨tmps, d, fn, h1, h2.mono F, Env.get_mono h3⟩
  | map es clock => obtain ⟨es', h1, h2, h3⟩ := h; exact ⟨es', h1, h2, fun i m hm => by obtain ⟨m', a, b⟩ := h3 i m hm; exact ⟨m', a, b.mono F⟩⟩
  | _ => exact h
theorem ORg.there {p : Prop} {E : Env} {e : En} {w : World} {cs : List Value} {t : TypeId} {s : Nat} {ex : Bool} (h : ORg p E e w (.cells cs t s ex)) (hn : cs ≠ [] ∨ ex = true) :
    ∃ (arr : Array Value) (fz : Nat × Nat), w.heap[e.blk]? = some (.cells arr t fz) ∧ (p → fz = (0, 0) ∨ arr.size ≤ fz.1) ∧ (p → arr.size = e.sh + cs.length + e.dl * s) ∧
      (∀ (i : Nat) (x : Value), cs[i]? = some x → ∃ x', arr[e.sh + i]? = some x' ∧ VR E x x') ∧ (ex = true → e.dl = 0 ∧ e.sh = 0 ∧ arr.size = cs.length) := by
  rcases h with ⟨h1, h2, _, _⟩ | h
  · rcases hn with hn | hn
    · exact absurd h1 hn
    · rw [h2] at hn; cases hn
  · exact h
theorem ne_of_get {cs : List Value} {i : Nat} {x : Value} (h : cs[i]? = some x) : cs ≠ [] := fun h0 => by rw [h0] at h; cases h
theorem ORg.mono {p : Prop} {E : Env} (F : Env) {e : En} {w : World} {o : CO} (h : ORg p E e w o) : ORg p (E ++ F) e w o := by
  cases o with
  | cells cs t s ex =>
    rcases h with h | ⟨arr, fz, h1, h2, h3, h4, h5⟩
    · exact .inl h
    exact .inr ⟨arr, fz, h1, h2, h3, fun i x hx => by obtain ⟨x', a, b⟩ := h4 i x hx; exact ⟨x', a, b.mono F⟩, h5⟩
  | loop l => exact OR.mono (o := .loop l) F h
  | map es clock => exact OR.mono (o := .map es clock) F h
  | _ => exact h
theorem OR.congr {E : Env} {e : En} {w w' : World} {o : CO} (hw : w'.heap[e.blk]? = w.heap[e.blk]?) (h : OR E e w o) : OR E e w' o := by
  cases o <;> simp only [OR] at h ⊢ <;> first | exact h | (rw [hw]; exact h)
theorem ORg.congr {p : Prop} {E : Env} {e : En} {w w' : World} {o : CO} (hw : w'.heap[e.blk]? = w.heap[e.blk]?) (h : ORg p E e w o) : ORg p E e w' o := by
  cases o <;> simp only [ORg, OR] at h ⊢ <;> first | exact h | (rw [hw]; exact h)
theorem getElem?_snoc_some {α : Type} {l : List α} {x y : α} {b : Nat} (h : (l ++ [x])[b]? = some y) : l[b]? = some y ∨ (b = l.length ∧ y = x) := by
  rw [List.getElem?_append] at h
  split at h
  · exact .inl h
  · rename_i hb
    match hk : b - l.length, h with
    | 0, h => exact .inr ⟨by omega, by simpa using h.symm⟩
    | k + 1, h => simp at h
theorem push_some {H : CH} {x y : CO} {b : Nat} (h : (H.push x)[b]? = some y) : H[b]? = some y ∨ (b = H.length ∧ y = x) := by
  rw [Hp.get_push] at h
  split at h
  · rename_i hb; exact .inr ⟨hb, by simpa using h.symm⟩
  · exact .inl h
theorem WR.draws {w0 : World} {G : Nat} {E : Env} {H : CH} {w : World} (h : WR w0 G E H w) (n : Nat) : WR w0 G E H { w with drawn := n } :=
  ⟨h.len, h.glen, h.below.trans ⟨rfl, rfl, rfl, Nat.le_refl _, fun _ _ => rfl⟩, fun b o e x y => ORg.congr (w := w) rfl (h.obj b o e x y), h.inj, h.new, h.old⟩
theorem lt_of_heap {w : World} {k : Nat} {o : Obj} (h : w.heap[k]? = some o) : k < w.heap.size := (Array.getElem?_eq_some_iff.1 h).1
theorem OR.lt {E : Env} {e : En} {w : World} {o : CO} (h : OR E e w o) (ha : o.alive = true) : e.blk < w.heap.size := by
  cases o with
  | cells cs t s ex => obtain ⟨_, _, h, _⟩ := h; exact lt_of_heap h
  | loop l => obtain ⟨_, _, _, h, _⟩ := h; exact lt_of_heap h
  | dfr taken => exact lt_of_heap h
  | iter s pos => exact lt_of_heap h.1
  | map es clock => obtain ⟨_, h, _⟩ := h; exact lt_of_heap h
  | dead => cases ha
theorem ORg.lt {p : Prop} {E : Env} {e : En} {w : World} {o : CO} (h : ORg p E e w o) (ha : o.alive = true) : e.blk < w.heap.size := by
  cases o with
  | cells cs t s ex =>
    rcases h with ⟨_, _, _, h⟩ | ⟨_, _, h, _⟩
    · obtain ⟨o, ho⟩ := Option.isSome_iff_exists.1 h
      exact lt_of_heap ho
    · exact lt_of_heap h
  | loop l => exact OR.lt (E := E) (o := .loop l) h ha
  | dfr taken => exact OR.lt (E := E) (o := .dfr taken) h ha
  | iter s pos => exact OR.lt (E := E) (o := .iter s pos) h ha
  | map es clock => exact OR.lt (E := E) (o := .map es clock) h ha
  | dead => cases ha
theorem ORg.keep {p : Prop} {E : Env} {e : En} {w w' : World} {o : CO} (hw : ∀ k, k < w.heap.size → w'.heap[k]? = w.heap[k]?) (h : ORg p E e w o) : ORg p E e w' o := by
  by_cases ha : o.alive = true
  · exact ORg.congr (hw _ (h.lt ha)) h
  · cases o <;> first | exact trivial | (exact absurd rfl ha)
theorem OR.keep {E : Env} {e : En} {w w' : World} {o : CO} (hw : ∀ k, k < w.heap.size → w'.heap[k]? = w.heap[k]?) (h : OR E e w o) : OR E e w' o := by
  by_cases ha : o.alive = true
  · exact OR.congr (hw _ (h.lt ha)) h
  · cases o <;> first | exact trivial | (exact absurd rfl ha)
theorem size_alloc (w : World) (ob : Obj) : (w.alloc ob).heap.size = w.heap.size + 1 := by
  show (w.heap.push ob).size = _
  simp
theorem WR.push {w0 : World} {G : Nat} {E : Env} {H : CH} {w : World} (h : WR w0 G E H w) (o : CO) (ob : Obj) (e : En) (he : e.blk = w.heap.size) (ho : OR (E ++ [e]) e (w.alloc ob) o) :
    WR w0 G (E ++ [e]) (H.push (o)) (w.alloc ob) := by
  have hE : ∀ {b : Nat} {x : En} {y : CO}, (E ++ [e])[b]? = some x → (H.push (o))[b]? = some y → (E[b]? = some x ∧ H[b]? = some y) ∨ (b = E.length ∧ x = e ∧ y = o) := by
    intro b x y hx hy
    rcases getElem?_snoc_some hx with hx | ⟨h1, h2⟩ <;> rcases push_some hy with hy | ⟨h3, h4⟩
    · exact .inl ⟨hx, hy⟩
    · have := (List.getElem?_eq_some_iff.1 hx).1; have := h.len; omega
    · have := Hp.lt hy; have := h.len; omega
    · exact .inr ⟨h1, h2, h4⟩
  refine ⟨by simp [h.len, Hp.length_push], by simp; have := h.glen; omega, h.below.alloc h.below.size ob, ?_, ?_, ?_, ?_⟩
  · intro b y x hy hx
    rcases hE hx hy with ⟨hx, hy⟩ | ⟨_, rfl, rfl⟩
    · exact ORg.mono [e] (ORg.keep (fun k hk => Below.heap_alloc w ob k hk) (h.obj b y x hy hx))
    · exact ho.gen _
  · intro b b' y y' x x' hGG hy hy' hx hx' ha ha' hblk
    rcases hE hx hy with ⟨hx1, hy1⟩ | ⟨h1, h2, h3⟩ <;> rcases hE hx' hy' with ⟨hx1', hy1'⟩ | ⟨h1', h2', h3'⟩
    · exact h.inj b b' y y' x x' hGG hy1 hy1' hx1 hx1' ha ha' hblk
    · have := (h.obj b y x hy1 hx1).lt ha; rw [h2'] at hblk; omega
    · have := (h.obj b' y' x' hy1' hx1').lt ha'; rw [h2] at hblk; omega
    · omega
  · intro b y x hy hx ha hG
    rw [size_alloc]
    rcases hE hx hy with ⟨hx, hy⟩ | ⟨h1, rfl, rfl⟩
    · have := h.new b y x hy hx ha hG; omega
    · have := h.below.size; omega
  · refine ⟨h.old.1, fun b x hb hx => ?_⟩
    have hbl : b < E.length := by have := h.glen; have := h.old.1; omega
    rw [List.getElem?_append_left hbl] at hx
    exact h.old.2 b x hb hx
theorem WR.upd {w0 : World} {G : Nat} {E : Env} {H : CH} {w w' : World} (h : WR w0 G E H w) {b : Nat} {o o' : CO} {e : En} (hb : H[b]? = some o) (he : E[b]? = some e) (ha : o.alive = true) (hG : G ≤ b)
    (hos : w'.os = w.os) (htape : w'.tape = w.tape) (hout : w'.output = w.output) (hsz : w'.heap.size = w.heap.size) (hk : ∀ k, k ≠ e.blk → w'.heap[k]? = w.heap[k]?) (hn : OR E e w' o') :
    WR w0 G E (H.set b o') w' := by
  have hbl : b < H.length := Hp.lt hb
  have hset : ∀ {c : Nat} {y : CO}, (H.set b o')[c]? = some y → (c = b ∧ y = o') ∨ (c ≠ b ∧ H[c]? = some y) := by
    intro c y hy
    rw [Hp.get_set] at hy
    by_cases hcb : b = c
    · subst hcb; rw [if_pos rfl, if_pos hbl] at hy; exact .inl ⟨rfl, by simpa using hy.symm⟩
    · rw [if_neg hcb] at hy; exact .inr ⟨fun x => hcb x.symm, hy⟩
  have hnew := h.new b o e hb he ha hG
  refine ⟨h.len, h.glen, h.below.trans ⟨hos, htape, hout, by omega, fun k hk' => hk k (by omega)⟩, ?_, ?_, ?_, h.old⟩
  · intro c y x hy hx
    rcases hset hy with ⟨rfl, rfl⟩ | ⟨hc, hy⟩
    · rw [he] at hx; cases hx; exact hn.gen _
    · by_cases hya : y.alive = true
      · refine ORg.congr (hk _ fun hxe => ?_) (h.obj c y x hy hx)
        exact hc (h.inj c b y o x e (.inr hG) hy hb hx he hya ha hxe)
      · cases y <;> first | exact trivial | (exact absurd rfl hya)
  · intro c c' y y' x x' hGG hy hy' hx hx' hya hya' hblk
    rcases hset hy with ⟨h1, _⟩ | ⟨_, hy1⟩ <;> rcases hset hy' with ⟨h1', _⟩ | ⟨_, hy1'⟩
    · rw [h1, h1']
    · exact h.inj c c' o y' x x' hGG (h1 ▸ hb) hy1' hx hx' ha hya' hblk
    · exact h.inj c c' y o x x' hGG hy1 (h1' ▸ hb) hx hx' hya ha hblk
    · exact h.inj c c' y y' x x' hGG hy1 hy1' hx hx' hya hya' hblk
  · intro c y x hy hx hya hGc
    rw [hsz]
    rcases hset hy with ⟨rfl, rfl⟩ | ⟨hc, hy⟩
    · rw [he] at hx; cases hx; exact hnew
    · exact h.new c y x hy hx hya hGc
theorem WR.kill {w0 : World} {G : Nat} {E : Env} {H : CH} {w : World} (h : WR w0 G E H w) (b : Nat) : WR w0 G E (H.set b .dead) w := by
  have hset : ∀ {c : Nat} {y : CO}, (H.set b .dead)[c]? = some y → y = .dead ∨ (c ≠ b ∧ H[c]? = some y) := by
    intro c y hy
    rw [Hp.get_set] at hy
    by_cases hcb : b = c
    · subst hcb
      rw [if_pos rfl] at hy
      split at hy
      · exact .inl (by simpa using hy.symm)
      · cases hy
    · rw [if_neg hcb] at hy; exact .inr ⟨fun x => hcb x.symm, hy⟩
  refine ⟨h.len, h.glen, h.below, ?_, ?_, ?_, h.old⟩
  · intro c y x hy hx
    rcases hset hy with rfl | ⟨_, hy⟩
    · exact trivial
    · exact h.obj c y x hy hx
  · intro c c' y y' x x' hGG hy hy' hx hx' hya hya' hblk
    rcases hset hy with rfl | ⟨_, hy⟩
    · cases hya
    · rcases hset hy' with rfl | ⟨_, hy'⟩
      · cases hya'
      · exact h.inj c c' y y' x x' hGG hy hy' hx hx' hya hya' hblk
  · intro c y x hy hx hya hGc
    rcases hset hy with rfl | ⟨_, hy⟩
    · cases hya
    · exact h.new c y x hy hx hya hGc
def CH.cell? (H : CH) (b i : Nat) : Option Value :=
  match H[b]? with
  | some (.cells cs _ _ _) => cs[i]?
  | _ => none
theorem WR.cell {w0 : World} {G : Nat} {E : Env} {H : CH} {w : World} (h : WR w0 G E H w) {b i : Nat} {e : En} {x : Value} (he : E[b]? = some e) (hx : H.cell? b i = some x) :
    ∃ x', w.cell? ⟨e.blk, i + e.sh, none⟩ = some x' ∧ VR E x x' := by
  unfold CH.cell? at hx
  cases hb : H[b]? with
  | none => rw [hb] at hx; cases hx
  | some o =>
    rw [hb] at hx
    cases o with
    | cells cs t s ex =>
      obtain ⟨arr, fz, h1, _, _, h4, _⟩ := (h.obj b _ e hb he).there (.inl (ne_of_get (show cs[i]? = some x from hx)))
      obtain ⟨x', hx', hr⟩ := h4 i x hx
      refine ⟨x', ?_, hr⟩
      unfold World.cell?
      simp only [h1]
      rw [Nat.add_comm]
      exact hx'
    | _ => cases hx
def CH.set? (G : Nat) (H : CH) (b i : Nat) (v : Value) : Option CH :=
  if G ≤ b then
    match H[b]? with
    | some (.cells cs t s ex) => if i < cs.length then some (H.set b (.cells (cs.set i v) t s ex)) else none
    | _ => none
  else none
theorem WR.store {w0 : World} {G : Nat} {E : Env} {H H' : CH} {w : World} (h : WR w0 G E H w) {b i : Nat} {e : En} {v v' : Value} (he : E[b]? = some e) (hv : VR E v v') (hs : H.set? G b i v = some H') :
    (∃ u, w.cell? ⟨e.blk, i + e.sh, none⟩ = some u) ∧ w.frozen? ⟨e.blk, i + e.sh, none⟩ = false ∧ WR w0 G E H' (w.setCell ⟨e.blk, i + e.sh, none⟩ v') := by
  unfold CH.set? at hs
  split at hs
  case isFalse => cases hs
  rename_i hG
  cases hb : H[b]? with
  | none => rw [hb] at hs; cases hs
  | some o =>
    rw [hb] at hs
    cases o with
    | cells cs t s ex =>
      dsimp only at hs
      split at hs
      case isFalse => cases hs
      rename_i hi
      cases hs
      obtain ⟨arr, fz, h1, h2, h3, h4, h5⟩ := (h.obj b _ e hb he).full hG
      have hlt : e.sh + i < arr.size := by omega
      refine ⟨⟨arr[e.sh + i], ?_⟩, ?_, ?_⟩
      · unfold World.cell?
        simp only [h1]
        rw [Nat.add_comm]
        simp [hlt]
      · unfold World.frozen?
        simp only [h1]
        rcases h2 with rfl | h2
        · simp
        · simp; omega
      · have hheap : (w.setCell ⟨e.blk, i + e.sh, none⟩ v').heap[e.blk]? = some (.cells (arr.setIfInBounds (i + e.sh) v') t fz) := by
          simp [World.setCell, Array.getElem?_modify, h1]
        refine h.upd hb he rfl hG rfl rfl rfl (by simp [World.setCell]) (fun k hk => Below.heap_setCell _ _ _ _ (by simpa using hk)) ?_
        refine ⟨arr.setIfInBounds (i + e.sh) v', fz, hheap, by simpa using h2, by simpa using h3, fun j x hx => ?_, h5⟩
        rw [List.getElem?_set] at hx
        by_cases hij : i = j
        · subst hij
          rw [if_pos rfl, if_pos hi] at hx
          cases hx
          exact ⟨v', by rw [Nat.add_comm e.sh i, Array.getElem?_setIfInBounds_self_of_lt]; omega, hv⟩
        · rw [if_neg hij] at hx
          obtain ⟨x', hx', hr⟩ := h4 j x hx
          exact ⟨x', by rw [Array.getElem?_setIfInBounds_ne (by omega)]; exact hx', hr⟩
    | _ => cases hs
end Go.Ex
