/- Texts of this claim, merged: VtCost. -/
import Derived.Test.YtpincdcebhmnhaaGreatM01
import Derived.IntWalk
/- The contract of package vtime's Cost (the part of Vt that needs no After). -/
namespace Go.Proofs.YtpincdcebhmnhaaGreat.Vt
open Go.ChangeShapes Go.WideShapes Go.ChangeAt Go.RowKit
set_option linter.unusedVariables false

/-- May this be a weight? -/
def isW (x : Int) : Bool := decide (1 ≤ x ∧ x ≤ 100)
/-- May these be ticks? -/
def isT (x : Int) : Bool := decide (0 ≤ x ∧ x ≤ 1073741824)

theorem isW_yes {x : Int} (h : isW x = true) : 1 ≤ x ∧ x ≤ 100 := of_decide_eq_true h
theorem isW_no {x : Int} (h : isW x = false) : x < 1 ∨ 100 < x := by have := of_decide_eq_false h; omega
theorem isT_yes {x : Int} (h : isT x = true) : 0 ≤ x ∧ x ≤ 1073741824 := of_decide_eq_true h
theorem isT_no {x : Int} (h : isT x = false) : x < 0 ∨ 1073741824 < x := by have := of_decide_eq_false h; omega

/-- What a tick costs. -/
def costOf (x : Int) : Int := 1048576 / x

theorem costOf_bd {x : Int} (h : isW x = true) : 0 ≤ costOf x ∧ costOf x ≤ 1048576 := by
  obtain ⟨h1, h2⟩ := isW_yes h
  exact ⟨Int.ediv_nonneg (by omega) (by omega), Int.ediv_le_self _ (by omega)⟩

theorem prod_bd {x t : Int} (hx : isW x = true) (ht : isT t = true) : 0 ≤ t * costOf x ∧ t * costOf x ≤ 1125899906842624 := by
  obtain ⟨c0, c1⟩ := costOf_bd hx
  obtain ⟨t0, t1⟩ := isT_yes ht
  exact ⟨Int.mul_nonneg t0 c0, Int.le_trans (Int.mul_le_mul t1 c1 c0 (by omega)) (by omega)⟩

theorem weight_any (x : Int) (w : World) :
    Calls Tryz.prog 71 #[.int .i64 x] w fun e w' => e = .returned (.bool (isW x)) ∧ w = w' := by
  cases h : isW x with
  | true =>
    obtain ⟨h1, h2⟩ := isW_yes h
    clear h
    go_enter Tryz.func71, Tryz.ntmps71
    go_wp2
    go_ret
    exact ⟨rfl, rfl⟩
  | false =>
    have h1 := isW_no h
    clear h
    rcases h1 with h1 | h1
    · have h2 : ¬ 1 ≤ x := by omega
      go_enter Tryz.func71, Tryz.ntmps71
      go_wp2
      go_ret
      exact ⟨rfl, rfl⟩
    · have h2 : ¬ x ≤ 100 := by omega
      have h3 : 1 ≤ x := by omega
      go_enter Tryz.func71, Tryz.ntmps71
      go_wp2
      go_ret
      exact ⟨rfl, rfl⟩

theorem cost_yes (x : Int) (w : World) (h : isW x = true) :
    Calls Tryz.prog 50 #[.int .i64 x] w fun e w' => e = .returned (.tuple #[.int .i64 (costOf x), .int .i64 0]) ∧ w = w' := by
  have c := Lib.hid (weight_any x w)
  rw [h] at c
  obtain ⟨h1, h2⟩ := isW_yes h
  obtain ⟨c0, c1⟩ := costOf_bd h
  unfold costOf at *
  clear h
  go_enter Tryz.func50, Tryz.ntmps50
  go_wp2_with (go_at_call 71; (with_reducible refine c.out.mono ?_); rintro e w' ⟨rfl, rfl⟩)
  go_ret2
  exact ⟨rfl, rfl⟩

theorem cost_no (x : Int) (w : World) (h : isW x = false) :
    Calls Tryz.prog 50 #[.int .i64 x] w fun e w' => e = .returned (.tuple #[.int .i64 0, .int .i64 1]) ∧ w = w' := by
  have c := Lib.hid (weight_any x w)
  rw [h] at c
  clear h
  go_enter Tryz.func50, Tryz.ntmps50
  go_wp2_with (go_at_call 71; (with_reducible refine c.out.mono ?_); rintro e w' ⟨rfl, rfl⟩)
  go_ret2
  exact ⟨rfl, rfl⟩

end Go.Proofs.YtpincdcebhmnhaaGreat.Vt
