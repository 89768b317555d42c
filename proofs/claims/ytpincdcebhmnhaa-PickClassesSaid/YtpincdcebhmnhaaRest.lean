/- The contract of Rest: a remainder. -/
import Derived.Test.YtpincdcebhmnhaaRow
import Derived.IntWalk
namespace Go.Proofs.Ytpincdcebhmnhaa
open Go.ChangeShapes Go.WideShapes Go.ChangeAt Go.RowKit
set_option linter.unusedVariables false

theorem u64_is (k : Int) : IntKind.u64.wrap k = k % 18446744073709551616 := by
  simp [IntKind.wrap, IntKind.signed, IntKind.bits]

theorem rest_any (k n : Int) (h : 0 < n) (h2 : n ≤ 9223372036854775807) (w : World) :
    Calls Try.prog 11 #[.int .i64 k, .int .i64 n] w fun e w' => e = .returned (.int .i64 (restOf k n)) ∧ w = w' := by
  have hn : ¬ IntKind.u64.wrap n = 0 := by rw [u64_is]; omega
  go_enter Try.func11, Try.ntmps11
  go_wp2
  go_ret
  refine ⟨ret_int ?_, rfl⟩
  have e2 := restOf_lo k n h
  have e3 := restOf_hi k n h
  rw [u64_is, Int.tmod_eq_emod_of_nonneg (by omega)]
  show wrap64 (restOf k n) = _
  exact IntWalk.wrap64_in _ (by omega)
end Go.Proofs.Ytpincdcebhmnhaa
