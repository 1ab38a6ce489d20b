/- Engine, part 27: the first relation: the package variables that a row lists lie at their own numbers. -/
import Derived.Test.YtbbkjmoomflecaaEngCut
noncomputable section
namespace Go.Ex
open Go.RowKit

def startE (G : Nat) : Env := (List.range G).map fun b => ⟨b, 0, 0⟩
theorem startE_get {G b : Nat} {e : En} (h : (startE G)[b]? = some e) : b < G ∧ e = ⟨b, 0, 0⟩ := by
  unfold startE at h
  rw [List.getElem?_map] at h
  have hb : b < G := by
    rcases Nat.lt_or_ge b G with hb | hb
    · exact hb
    · rw [List.getElem?_eq_none (by simpa using hb)] at h; cases h
  refine ⟨hb, ?_⟩
  rw [List.getElem?_range hb] at h
  simpa using h.symm
/-- a variable that is laid -/
def LaidAt (W : World) (b : Nat) (o : CO) : Prop :=
  ∃ cs t s, o = .cells cs t s true ∧ cs.all (clean 6) = true ∧ W.heap[b]? = some (.cells ⟨cs⟩ t (0, 0))
theorem WR.start {W : World} {G : Nat} {H : CH} (hgl : gl ≤ G) (hG : H.length = G) (hobj : ∀ b o, H[b]? = some o → o.alive = true → LaidAt W b o) : WR W G (startE G) H W := by
  refine ⟨by simp [startE, hG], by simp [startE], Below.refl _ _, ?_, ?_, ?_, hgl, fun b e _ he => (startE_get he).2⟩
  · intro b o e hb he
    obtain ⟨_, rfl⟩ := startE_get he
    by_cases ha : o.alive = true
    · obtain ⟨cs, t, s, rfl, hc, hw⟩ := hobj b o hb ha
      refine .inr ⟨⟨cs⟩, (0, 0), hw, fun _ => .inl rfl, fun _ => by simp, fun i x hx => ⟨x, by simpa using hx, VR.of_clean _ 6 x ?_⟩, fun _ => ⟨rfl, rfl, rfl⟩⟩
      exact List.all_eq_true.1 hc x (List.mem_of_getElem? hx)
    · cases o <;> first | exact trivial | (exact absurd rfl ha)
  · intro b b' o o' e e' _ _ _ he he' _ _ hblk
    obtain ⟨_, rfl⟩ := startE_get he
    obtain ⟨_, rfl⟩ := startE_get he'
    exact hblk
  · intro b o e _ he _ hGb
    have := (startE_get he).1
    omega
/-- of a variable's reading and the world's shape -/
theorem laidAt_of {P : Program} {W : World} (hs : W.ShapedOpen P) {g : Nat} {t : TypeId} {s : Nat} {cs : List Value} {name : String} (hg : P.globalNamed name = some g) (hlt : g < P.globals.size)
    (h0 : (((begin P (fun _ _ => 0) default).world.heap[g]?).bind Obj.row?).map (·.2) = some t) (hv : W.var? P name = some ⟨cs⟩) (hc : cs.all (clean 6) = true) : LaidAt W g (.cells cs t s true) := by
  obtain ⟨z, hz, ht⟩ := map_some' h0
  obtain ⟨zero, u⟩ := z
  have ht' : u = t := ht
  subst ht'
  obtain ⟨arr, ha, _, _⟩ := hs.1 g zero _ hlt hz
  refine ⟨cs, _, s, rfl, hc, ?_⟩
  unfold World.var? at hv
  rw [hg, Option.bind_some, ha] at hv
  have : arr = ⟨cs⟩ := by simpa using hv
  rw [← this]; exact ha
end Go.Ex
