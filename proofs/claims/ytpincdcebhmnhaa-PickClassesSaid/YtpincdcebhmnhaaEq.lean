/- The contract of slices.Equal at numbers. -/
import Derived.Test.YtpincdcebhmnhaaInts
import Derived.Deep.QuietTactic
import Derived.BigQuiet
namespace Go.Proofs.Ytpincdcebhmnhaa
open Go.ChangeShapes Go.WideShapes Go.ChangeAt Go.RowKit
set_option linter.unusedVariables false

theorem take_more {xs ys : List Int} {k : Nat} (h : xs.take k = ys.take k) (hx : k < xs.length) (hy : k < ys.length) (he : xs.getD k 0 = ys.getD k 0) : xs.take (k + 1) = ys.take (k + 1) := by
  rw [List.take_succ_eq_append_getElem hx, List.take_succ_eq_append_getElem hy, h]
  have : xs[k] = ys[k] := by simpa [List.getD, hx, hy] using he
  rw [this]

/-- A bool was answered, and memory is as it was. -/
def BoolOnly (b : Bool) (w : World) (e : Ending) (w' : World) : Prop := e = .returned (.bool b) ∧ Only (fun _ => False) w w'

theorem bool_is {b c : Bool} {w w' : World} (h : c = b) (hO : Only (fun _ => False) w w') : BoolOnly c w (.returned (.bool b)) w' := by subst h; exact ⟨rfl, hO⟩

end Go.Proofs.Ytpincdcebhmnhaa
