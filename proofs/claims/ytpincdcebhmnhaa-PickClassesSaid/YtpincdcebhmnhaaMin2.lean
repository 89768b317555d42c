/- The builtins min and max of two ints. -/
import Derived.Test.YtpincdcebhmnhaaMem
import Derived.Deep.CutBlock
namespace Go.Proofs.Ytpincdcebhmnhaa
open Go.ChangeShapes Go.WideShapes Go.ChangeAt Go.RowKit Go.Maps
theorem run_min2 (x y m : Int) (h : min x y = m) (w : World) (ts : Array TypeId) (t : TypeId) : (Builtin.min_ ts t #[.int .i64 x, .int .i64 y]).run Try.prog w = .ok (.int .i64 m) w := by
  subst h
  have e : (if y < x then y else x) = min x y := by rw [Int.min_def]; split <;> split <;> omega
  simp [Builtin.min_, Builtin.min2, e]
theorem run_max2 (x y m : Int) (h : max x y = m) (w : World) (ts : Array TypeId) (t : TypeId) : (Builtin.max_ ts t #[.int .i64 x, .int .i64 y]).run Try.prog w = .ok (.int .i64 m) w := by
  subst h
  have e : (if y > x then y else x) = max x y := by rw [Int.max_def]; split <;> split <;> omega
  simp [Builtin.max_, Builtin.max2, e]
end Go.Proofs.Ytpincdcebhmnhaa
