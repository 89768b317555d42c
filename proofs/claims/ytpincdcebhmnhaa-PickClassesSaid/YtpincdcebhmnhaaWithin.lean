/- What changes only a stretch of cells of one block: of no type and no program. -/
import Derived.Test.YtpincdcebhmnhaaMem
namespace Go.Proofs.Ytpincdcebhmnhaa
open Go.ChangeShapes Go.WideShapes Go.ChangeAt Go.RowKit Go.Maps
set_option linter.unusedVariables false

/-- Nothing but the cells o .. o + n - 1 of block p changes, and new blocks. -/
structure Within (p o n : Nat) (w w' : World) : Prop where
  only : Only (fun k => k = p) w w'
  still : ∀ cs T, w.heap[p]? = some (.cells cs T (0, 0)) → ∃ cs', w'.heap[p]? = some (.cells cs' T (0, 0)) ∧ cs'.size = cs.size ∧ ∀ j, j < o ∨ o + n ≤ j → cs'[j]? = cs[j]?

section
variable {p o n : Nat} {a b c w w' : World}
theorem Within.refl (p o n : Nat) (w : World) : Within p o n w w := ⟨Only.refl _ w, fun cs T h => ⟨cs, h, rfl, fun _ _ => rfl⟩⟩
theorem Within.trans (h : Within p o n a b) (k : Within p o n b c) (d : ∀ (x y : Nat), True → True := fun _ _ h => h) : Within p o n a c :=
  ⟨h.only.trans k.only (fun _ _ e => e), fun cs T hc => by
    obtain ⟨cs1, h1, s1, e1⟩ := h.still cs T hc
    obtain ⟨cs2, h2, s2, e2⟩ := k.still cs1 T h1
    exact ⟨cs2, h2, s2.trans s1, fun j hj => (e2 j hj).trans (e1 j hj)⟩⟩
/-- A call that changes nothing that was there. -/
theorem Within.of (hp : p < w.heap.size) (h : Only (fun _ => False) w w') : Within p o n w w' := ⟨h.mono (fun _ _ e => e.elim), fun cs T hc => ⟨cs, (h.block p hp id).trans hc, rfl, fun _ _ => rfl⟩⟩
theorem Within.lt (hp : p < a.heap.size) (h : Within p o n a b) : p < b.heap.size := Nat.lt_of_lt_of_le hp h.only.size
theorem Within.then (hp : p < a.heap.size) (h : Within p o n a b) (k : Only (fun _ => False) b c) : Within p o n a c := h.trans (Within.of (h.lt hp) k)
theorem Within.drew (h : Within p o n a w) : Within p o n a w.drew := ⟨h.only.drew, h.still⟩
theorem Within.drewN (h : Within p o n a w) (m : Nat) : Within p o n a (w.drewN m) := ⟨only_drewN h.only m, h.still⟩
theorem Within.setCell (h : Within p o n a w) {i : Nat} (hi : o ≤ i ∧ i < o + n) (u : Value) : Within p o n a (w.setCell ⟨p, i, none⟩ u) :=
  ⟨h.only.setCell (p := ⟨p, i, none⟩) rfl u, fun cs T hc => by
    obtain ⟨cs1, h1, s1, e1⟩ := h.still cs T hc
    refine ⟨_, heap_setCell_same w p i cs1 T u h1, by simp [s1], fun j hj => ?_⟩
    rw [Array.getElem?_setIfInBounds, if_neg (by omega)]
    exact e1 j hj⟩
theorem Within.wide {o' n' : Nat} (h : Within p o n a b) (h1 : o' ≤ o) (h2 : o + n ≤ o' + n') : Within p o' n' a b :=
  ⟨h.only, fun cs T hc => by
    obtain ⟨cs1, q1, s1, e1⟩ := h.still cs T hc
    exact ⟨cs1, q1, s1, fun j hj => e1 j (by omega)⟩⟩
end
end Go.Proofs.Ytpincdcebhmnhaa
