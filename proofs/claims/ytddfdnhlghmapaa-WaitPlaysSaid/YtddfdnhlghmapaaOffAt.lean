/- A map from numbers to bools of a call's own. -/
import Derived.Test.YtddfdnhlghmapaaMem
import Derived.Maps.OwnOps
import Derived.Deep.CutBlock
namespace Go.Proofs.Ytddfdnhlghmapaa.Of
open Go.ChangeShapes Go.WideShapes Go.ChangeAt Go.RowKit Go.Maps
set_option linter.unusedVariables false
set_option maxRecDepth 100000

def bkey (t : Int) : Lit := .int .i64 t
theorem bkey_ne {a b : Int} (h : a ≠ b) : bkey a ≠ bkey b := by intro e; cases e; exact h rfl
theorem bkey_lit (a : Int) : WideAt.IsKeyLit (bkey a) := by simp [WideAt.IsKeyLit, bkey]
def bval (b : Bool) : DataW Unit := .lit (.bool b)

theorem keyed_int : Keyed Try.prog 3 := int_keyed Try.underlying3
theorem zero_bool (w : World) : (zeroValue 4).run Try.prog w = .ok (.bool false) w := by kernel_rfl

theorem plain_bool_inv {v : Value} {z : DataW Unit × List MemPlace} (h : plainElem Try.prog 4 v = some z) : ∃ b, v = .bool b ∧ z = (bval b, []) := by
  unfold plainElem at h
  rw [Try.underlying4] at h
  cases v <;> simp at h
  exact ⟨_, rfl, h.symm⟩

/-- A map in block b, of at most n entries, that tells f. -/
def OffAt (w : World) (b n : Nat) (f : Int → Bool) : Prop := ∃ D : DataW Unit, w.ownsMap Try.prog 3 (plainElem Try.prog 4) b n D ∧ IsMap D ∧ ∀ t, D.atKey (bkey t) (bval false) = bval (f t)

section
variable {w w' : World} {b n : Nat} {f : Int → Bool}
theorem OffAt.keep {S : Nat → Prop} (h : OffAt w b n f) (hO : Only S w w') (hS : ¬ S b) : OffAt w' b n f := by
  obtain ⟨D, ⟨es, clock, h1, h2⟩, h3⟩ := h
  exact ⟨D, ⟨es, clock, (hO.block _ (block_there h1) hS).trans h1, h2⟩, h3⟩
theorem OffAt.later (h : OffAt w b n f) (hO : Only (fun _ => False) w w') : OffAt w' b n f := h.keep hO id
theorem OffAt.lt (h : OffAt w b n f) : b < w.heap.size := by obtain ⟨D, ⟨es, clock, h1, h2⟩, h3⟩ := h; exact block_there h1
theorem OffAt.made (w : World) : OffAt (w.alloc (.map #[] 0)) w.heap.size 0 (fun _ => false) := ⟨_, World.ownsMap_made w _ _ _, isMap_empty, fun t => rfl⟩
theorem OffAt.mono (h : OffAt w b n f) {m : Nat} (hm : n ≤ m) : OffAt w b m f := by obtain ⟨D, h1, h2⟩ := h; exact ⟨D, h1.mono hm, h2⟩

end

/-- A number's bool told anew. -/
def updI (f : Int → Bool) (t : Int) (c : Bool) : Int → Bool := fun x => if x = t then c else f x

theorem only_turned {w w' : World} {b : Nat} (h : w.mapTurned w' b) : Only (· = b) w w' :=
  Only.of_grown (S := fun k => k = b) h.grown (fun k hk => by cases hk; rfl)

end Go.Proofs.Ytddfdnhlghmapaa.Of
