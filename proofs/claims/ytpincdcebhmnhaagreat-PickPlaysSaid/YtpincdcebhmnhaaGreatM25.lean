/- Texts of this claim, merged: RefW. -/
import Derived.Test.YtpincdcebhmnhaaGreatM02
/- The reference's within, Weight, Task, Cost. -/
namespace Go.Proofs.YtpincdcebhmnhaaGreat.Vt
open Go.ChangeShapes Go.WideShapes Go.ChangeAt Go.RowKit
set_option linter.unusedVariables false

theorem within_any (x a b : Int) (w : World) :
    Calls Tryz.prog 61 #[.int .i64 x, .int .i64 a, .int .i64 b] w fun e w' => e = .returned (.bool (decide (a ≤ x ∧ x ≤ b))) ∧ w = w' := by
  by_cases h1 : a ≤ x
  · by_cases h2 : x ≤ b
    · rw [decide_eq_true (p := a ≤ x ∧ x ≤ b) ⟨h1, h2⟩]
      go_enter Tryz.func61, Tryz.ntmps61
      go_wp2
      go_ret
      exact ⟨rfl, rfl⟩
    · rw [decide_eq_false (p := a ≤ x ∧ x ≤ b) (by omega)]
      go_enter Tryz.func61, Tryz.ntmps61
      go_wp2
      go_ret
      exact ⟨rfl, rfl⟩
  · rw [decide_eq_false (p := a ≤ x ∧ x ≤ b) (by omega)]
    go_enter Tryz.func61, Tryz.ntmps61
    go_wp2
    go_ret
    exact ⟨rfl, rfl⟩

theorem ref_weight (x : Int) (w : World) : Calls Tryz.prog 31 #[.int .i64 x] w fun e w' => e = .returned (.bool (isW x)) ∧ w = w' := by
  have c := Lib.hid (within_any x 1 100 w)
  unfold isW
  generalize decide (1 ≤ x ∧ x ≤ 100) = b at *
  go_enter Tryz.func31, Tryz.ntmps31
  go_wp2_with (go_at_call 61; (with_reducible refine c.out.mono ?_); rintro e w' ⟨rfl, rfl⟩)
  go_ret
  exact ⟨rfl, rfl⟩

theorem ref_cost (x : Int) (w : World) (h : isW x = true) : Calls Tryz.prog 41 #[.int .i64 x] w fun e w' => e = .returned (.int .i64 (costOf x)) ∧ w = w' := by
  obtain ⟨h1, h2⟩ := isW_yes h
  obtain ⟨c0, c1⟩ := costOf_bd h
  unfold costOf at *
  clear h
  go_enter Tryz.func41, Tryz.ntmps41
  go_wp2
  go_ret
  exact ⟨rfl, rfl⟩

/-- May this be the number of a task? -/
def isN (x : Int) : Bool := decide (1 ≤ x ∧ x ≤ 16)
theorem ref_task (x : Int) (w : World) : Calls Tryz.prog 30 #[.int .i64 x] w fun e w' => e = .returned (.bool (isN x)) ∧ w = w' := by
  have c := Lib.hid (within_any x 1 16 w)
  unfold isN
  generalize decide (1 ≤ x ∧ x ≤ 16) = b at *
  go_enter Tryz.func30, Tryz.ntmps30
  go_wp2_with (go_at_call 61; (with_reducible refine c.out.mono ?_); rintro e w' ⟨rfl, rfl⟩)
  go_ret
  exact ⟨rfl, rfl⟩
end Go.Proofs.YtpincdcebhmnhaaGreat.Vt
