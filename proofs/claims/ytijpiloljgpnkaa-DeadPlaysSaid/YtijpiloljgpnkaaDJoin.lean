/- DeadPlays: its cases joined. -/
import Derived.Test.YtijpiloljgpnkaaDCase1
import Derived.Test.YtijpiloljgpnkaaDCase2
import Derived.Test.YtijpiloljgpnkaaDCase3
import Derived.Test.YtijpiloljgpnkaaDCase4
import Derived.Test.YtijpiloljgpnkaaDCase5
import Derived.Test.YtijpiloljgpnkaaDCase6
namespace Go.Proofs.Ytijpiloljgpnkaa.De
open Go.ChangeShapes Go.WideShapes Go.ChangeAt Go.RowKit Go.Maps
theorem plays_walk (a : Option Addr) (cap : Nat) (recs : List (List Int)) (w : World) (h : ArgRows w a recs.length cap recs) (hn : recs.length * 24 ≤ 140737488351232) :
    Calls Try.prog 3 #[.slice a recs.length cap] w fun e w' => e = .returned (.bool true) ∧ Below w.heap.size w w' :=
  cut.join ⟨case_1⟩ ⟨case_2⟩ ⟨case_3⟩ ⟨case_4⟩ ⟨case_5⟩ ⟨case_6⟩ a cap recs w h hn
end Go.Proofs.Ytijpiloljgpnkaa.De
