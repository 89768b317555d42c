/- The contracts of the functions of package wrap and of Rest that only compute with numbers: Far is the signed distance, Less asks whether it is positive, Rest is the remainder. -/
import Derived.Test.YtjeifpjjnfaefaaRows
import Derived.WalkKit
import Derived.ProofKit
import Derived.OpenShut
import Derived.Outline
namespace Go.Proofs.Ytjeifpjjnfaefaa
open Go.ChangeShapes Go.WideShapes Go.ChangeAt Go.RowKit
set_option linter.unusedVariables false

/-- The signed distance of two numbers of 32 bits. -/
def dist (a b : Int) : Int := (b - a + 2147483648) % 4294967296 - 2147483648

theorem dist_lo (a b : Int) : -2147483648 ≤ dist a b := by unfold dist; omega
theorem dist_hi (a b : Int) : dist a b ≤ 2147483647 := by unfold dist; omega

theorem u32_bd {a : Int} (h : (Lit.int .u32 a).wf = true) : 0 ≤ a ∧ a < 4294967296 := by
  simp [Lit.wf, IntKind.min, IntKind.max, IntKind.signed, IntKind.bits] at h; omega

theorem i64_bd {a : Int} (h : (Lit.int .i64 a).wf = true) : -9223372036854775808 ≤ a ∧ a ≤ 9223372036854775807 := by
  simp [Lit.wf, IntKind.min, IntKind.max, IntKind.signed, IntKind.bits] at h; omega

theorem ret_int {k : IntKind} {a b : Int} (h : a = b) : Ending.returned (.int k a) = .returned (.int k b) := by rw [h]

theorem far_any (a b : Int) (w : World) :
    Calls Try.prog 13 #[.int .u32 a, .int .u32 b] w fun e w' => e = .returned (.int .i64 (dist a b)) ∧ w = w' := by
  go_enter Try.func13, Try.ntmps13
  go_wp2
  go_ret
  refine ⟨ret_int ?_, rfl⟩
  unfold dist wrap64 wrap32
  omega

theorem far_eq (a b n : Int) (h : dist a b = n) (w : World) :
    Calls Try.prog 13 #[.int .u32 a, .int .u32 b] w fun e w' => e = .returned (.int .i64 n) ∧ w = w' := by
  subst h; exact far_any a b w

theorem less_any (a b : Int) (w : World) :
    Calls Try.prog 14 #[.int .u32 a, .int .u32 b] w fun e w' => e = .returned (.bool (decide (0 < dist a b))) ∧ w = w' := by
  go_enter Try.func14, Try.ntmps14
  go_wp2_with (go_at_call 13; refine (far_any _ _ _).mono ?_; rintro e w' ⟨rfl, rfl⟩)
  go_ret
  exact ⟨rfl, rfl⟩

theorem less_yes (a b : Int) (h : 0 < dist a b) (w : World) :
    Calls Try.prog 14 #[.int .u32 a, .int .u32 b] w fun e w' => e = .returned (.bool true) ∧ w = w' := by
  refine (less_any a b w).mono ?_
  rintro e w' ⟨rfl, rfl⟩; exact ⟨by rw [decide_eq_true h], rfl⟩

theorem less_no (a b : Int) (h : dist a b ≤ 0) (w : World) :
    Calls Try.prog 14 #[.int .u32 a, .int .u32 b] w fun e w' => e = .returned (.bool false) ∧ w = w' := by
  refine (less_any a b w).mono ?_
  rintro e w' ⟨rfl, rfl⟩; exact ⟨by rw [decide_eq_false (by omega)], rfl⟩

/-- The remainder that Rest answers: of k as a number of 64 bits without a sign. -/
def restOf (k n : Int) : Int := (k % 18446744073709551616) % n

theorem restOf_lo (k n : Int) (h : 0 < n) : 0 ≤ restOf k n := Int.emod_nonneg _ (by omega)
theorem restOf_hi (k n : Int) (h : 0 < n) : restOf k n < n := Int.emod_lt_of_pos _ h

theorem u64_is (k : Int) : IntKind.u64.wrap k = k % 18446744073709551616 := by
  simp [IntKind.wrap, IntKind.signed, IntKind.bits]

theorem rest_any (k n : Int) (h : 0 < n) (h2 : n ≤ 9223372036854775807) (w : World) :
    Calls Try.prog 22 #[.int .i64 k, .int .i64 n] w fun e w' => e = .returned (.int .i64 (restOf k n)) ∧ w = w' := by
  have hn : ¬ IntKind.u64.wrap n = 0 := by rw [u64_is]; omega
  go_enter Try.func22, Try.ntmps22
  go_wp2
  go_ret
  refine ⟨ret_int ?_, rfl⟩
  have e2 := restOf_lo k n h
  have e3 := restOf_hi k n h
  rw [u64_is, Int.tmod_eq_emod_of_nonneg (by omega)]
  show wrap64 (restOf k n) = _
  exact IntWalk.wrap64_in _ (by omega)
end Go.Proofs.Ytjeifpjjnfaefaa
