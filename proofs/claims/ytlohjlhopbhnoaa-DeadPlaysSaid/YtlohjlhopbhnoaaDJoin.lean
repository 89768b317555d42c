/- DeadPlays: its cases joined. -/
import Derived.Test.YtlohjlhopbhnoaaDCase1
import Derived.Test.YtlohjlhopbhnoaaDCase2
import Derived.Test.YtlohjlhopbhnoaaDCase3
import Derived.Test.YtlohjlhopbhnoaaDCase4
import Derived.Test.YtlohjlhopbhnoaaDCase5
import Derived.Test.YtlohjlhopbhnoaaDCase6
namespace Go.Proofs.Ytlohjlhopbhnoaa.De
open Go.ChangeShapes Go.WideShapes Go.ChangeAt Go.RowKit Go.Maps
theorem plays_walk (a : Option Addr) (cap : Nat) (recs : List (List Int)) (w : World) (h : ArgRows w a recs.length cap recs) (hn : recs.length * 24 ≤ 140737488351232) :
    Calls Try.prog 11 #[.slice a recs.length cap] w fun e w' => e = .returned (.bool true) ∧ Below w.heap.size w w' :=
  cut.join ⟨case_1⟩ ⟨case_2⟩ ⟨case_3⟩ ⟨case_4⟩ ⟨case_5⟩ ⟨case_6⟩ a cap recs w h hn
end Go.Proofs.Ytlohjlhopbhnoaa.De
