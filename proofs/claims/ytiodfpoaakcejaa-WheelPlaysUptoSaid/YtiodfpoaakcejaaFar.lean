/- The contract of wrap.Far: the signed distance of two numbers of 32 bits. -/
import Derived.Test.YtiodfpoaakcejaaMem
namespace Go.Proofs.Ytiodfpoaakcejaa
open Go.ChangeShapes Go.WideShapes Go.ChangeAt Go.RowKit
set_option linter.unusedVariables false

/-- The signed distance of two numbers of 32 bits. -/
def dist (a b : Int) : Int := (b - a + 2147483648) % 4294967296 - 2147483648

theorem dist_lo (a b : Int) : -2147483648 ≤ dist a b := by unfold dist; omega
theorem dist_hi (a b : Int) : dist a b ≤ 2147483647 := by unfold dist; omega

theorem u32_bd {a : Int} (h : (Lit.int .u32 a).wf = true) : 0 ≤ a ∧ a < 4294967296 := by
  simp [Lit.wf, IntKind.min, IntKind.max, IntKind.signed, IntKind.bits] at h; omega

theorem far_any (a b : Int) (w : World) :
    Calls Try.prog 39 #[.int .u32 a, .int .u32 b] w fun e w' => e = .returned (.int .i64 (dist a b)) ∧ w = w' := by
  go_enter Try.func39, Try.ntmps39
  go_wp2
  go_ret
  refine ⟨ret_int ?_, rfl⟩
  unfold dist wrap64 wrap32
  omega
end Go.Proofs.Ytiodfpoaakcejaa
