/- The zero values of the great structs, written out (the small loader leaves them). -/
import Derived.Test.YtpincdcebhmnhaaMem
import Derived.KernelRfl
namespace Go.Proofs.Ytpincdcebhmnhaa
open Go.ChangeShapes Go.WideShapes Go.ChangeAt Go.RowKit Go.Maps
set_option linter.unusedVariables false

def zFair : List Value := (List.replicate 17 [Value.int .i64 0, .int .i64 0, .int .i64 0, .bool false]).flatten ++ List.replicate 18 (.int .i64 0)
def zDead : List Value := (List.replicate 17 [Value.int .i64 0, .int .i64 0, .int .i64 0, .int .i64 0, .bool false, .bool false]).flatten ++ [.int .i64 0]
def zPick : List Value := zFair ++ (List.replicate 8 (Value.slice none 0 0) ++ (List.replicate 17 (.int .i64 0) ++ (zDead ++ List.replicate 19 (.int .i64 0))))
def Try.zeroCells49 : Array Value := zFair.toArray
def Try.zeroCells62 : Array Value := zDead.toArray
def Try.zeroCells64 : Array Value := zPick.toArray
@[simp] theorem Try.zeroValue49 (w : World) : (zeroValue 49).run Try.prog w = .ok (.agg Try.zeroCells49) w := by kernel_rfl
@[simp] theorem Try.zeroValue64 (w : World) : (zeroValue 64).run Try.prog w = .ok (.agg Try.zeroCells64) w := by kernel_rfl
theorem ne_of_size {cs : Array Value} (h : cs.size ≠ 0) : cs ≠ #[] := by rintro rfl; exact h rfl
@[simp] theorem zFair_ne : Try.zeroCells49 ≠ #[] := ne_of_size (show zFair.length ≠ 0 by simp [zFair])
@[simp] theorem zPick_ne : Try.zeroCells64 ≠ #[] := ne_of_size (show zPick.length ≠ 0 by simp [zPick])
end Go.Proofs.Ytpincdcebhmnhaa
