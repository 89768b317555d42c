/- slices.Clone of numbers. -/
import Derived.Test.YtpincdcebhmnhaaAppend
import Derived.WalkSpells
namespace Go.Proofs.Ytpincdcebhmnhaa
open Go.ChangeShapes Go.WideShapes Go.ChangeAt Go.RowKit
set_option linter.unusedVariables false

/-- The numbers were answered in a row of the call's own, and nothing that was there changed. -/
def FreshInts (xs : List Int) (w : World) (e : Ending) (w' : World) : Prop := ∃ v, e = .returned v ∧ Ints w' w.heap.size v xs ∧ Only (fun _ => False) w w'

end Go.Proofs.Ytpincdcebhmnhaa
