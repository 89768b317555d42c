/- The contracts of package vtime's Cost and After, and of the statements' Weight and Cost. -/
import Derived.Test.YtbdkibigcjpkbaaMem
import Derived.IntWalk
namespace Go.Proofs.Ytbdkibigcjpkbaa.Vt
open Go.ChangeShapes Go.WideShapes Go.ChangeAt Go.RowKit
set_option linter.unusedVariables false

/-- May this be a weight? -/
def isW (x : Int) : Bool := decide (1 ≤ x ∧ x ≤ 100)
/-- May these be ticks? -/
def isT (x : Int) : Bool := decide (0 ≤ x ∧ x ≤ 1073741824)

theorem isW_yes {x : Int} (h : isW x = true) : 1 ≤ x ∧ x ≤ 100 := of_decide_eq_true h
theorem isW_no {x : Int} (h : isW x = false) : x < 1 ∨ 100 < x := by have := of_decide_eq_false h; omega
theorem isT_yes {x : Int} (h : isT x = true) : 0 ≤ x ∧ x ≤ 1073741824 := of_decide_eq_true h
theorem isT_no {x : Int} (h : isT x = false) : x < 0 ∨ 1073741824 < x := by have := of_decide_eq_false h; omega

/-- What a tick costs. -/
def costOf (x : Int) : Int := 1048576 / x

theorem costOf_bd {x : Int} (h : isW x = true) : 0 ≤ costOf x ∧ costOf x ≤ 1048576 := by
  obtain ⟨h1, h2⟩ := isW_yes h
  exact ⟨Int.ediv_nonneg (by omega) (by omega), Int.ediv_le_self _ (by omega)⟩

theorem prod_bd {x t : Int} (hx : isW x = true) (ht : isT t = true) : 0 ≤ t * costOf x ∧ t * costOf x ≤ 1125899906842624 := by
  obtain ⟨c0, c1⟩ := costOf_bd hx
  obtain ⟨t0, t1⟩ := isT_yes ht
  exact ⟨Int.mul_nonneg t0 c0, Int.le_trans (Int.mul_le_mul t1 c1 c0 (by omega)) (by omega)⟩

theorem weight_any (x : Int) (w : World) :
    Calls Try.prog 13 #[.int .i64 x] w fun e w' => e = .returned (.bool (isW x)) ∧ w = w' := by
  cases h : isW x with
  | true =>
    obtain ⟨h1, h2⟩ := isW_yes h
    clear h
    go_enter Try.func13, Try.ntmps13
    go_wp2
    go_ret
    exact ⟨rfl, rfl⟩
  | false =>
    have h1 := isW_no h
    clear h
    rcases h1 with h1 | h1
    · have h2 : ¬ 1 ≤ x := by omega
      go_enter Try.func13, Try.ntmps13
      go_wp2
      go_ret
      exact ⟨rfl, rfl⟩
    · have h2 : ¬ x ≤ 100 := by omega
      have h3 : 1 ≤ x := by omega
      go_enter Try.func13, Try.ntmps13
      go_wp2
      go_ret
      exact ⟨rfl, rfl⟩

theorem ticks_any (x : Int) (w : World) :
    Calls Try.prog 14 #[.int .i64 x] w fun e w' => e = .returned (.bool (isT x)) ∧ w = w' := by
  cases h : isT x with
  | true =>
    obtain ⟨h1, h2⟩ := isT_yes h
    clear h
    go_enter Try.func14, Try.ntmps14
    go_wp2
    go_ret
    exact ⟨rfl, rfl⟩
  | false =>
    have h1 := isT_no h
    clear h
    rcases h1 with h1 | h1
    · have h2 : ¬ 0 ≤ x := by omega
      go_enter Try.func14, Try.ntmps14
      go_wp2
      go_ret
      exact ⟨rfl, rfl⟩
    · have h2 : ¬ x ≤ 1073741824 := by omega
      have h3 : 0 ≤ x := by omega
      go_enter Try.func14, Try.ntmps14
      go_wp2
      go_ret
      exact ⟨rfl, rfl⟩

theorem cost_yes (x : Int) (w : World) (h : isW x = true) :
    Calls Try.prog 6 #[.int .i64 x] w fun e w' => e = .returned (.tuple #[.int .i64 (costOf x), .int .i64 0]) ∧ w = w' := by
  have c := Lib.hid (weight_any x w)
  rw [h] at c
  obtain ⟨h1, h2⟩ := isW_yes h
  obtain ⟨c0, c1⟩ := costOf_bd h
  unfold costOf at *
  clear h
  go_enter Try.func6, Try.ntmps6
  go_wp2_with (go_at_call 13; (with_reducible refine c.out.mono ?_); rintro e w' ⟨rfl, rfl⟩)
  go_ret2
  exact ⟨rfl, rfl⟩

theorem cost_no (x : Int) (w : World) (h : isW x = false) :
    Calls Try.prog 6 #[.int .i64 x] w fun e w' => e = .returned (.tuple #[.int .i64 0, .int .i64 1]) ∧ w = w' := by
  have c := Lib.hid (weight_any x w)
  rw [h] at c
  clear h
  go_enter Try.func6, Try.ntmps6
  go_wp2_with (go_at_call 13; (with_reducible refine c.out.mono ?_); rintro e w' ⟨rfl, rfl⟩)
  go_ret2
  exact ⟨rfl, rfl⟩

theorem after_yes (v x t : Int) (w : World) (hx : isW x = true) (ht : isT t = true) (h0 : 0 ≤ v) (h1 : v ≤ 1152921504606846976) :
    Calls Try.prog 7 #[.int .i64 v, .int .i64 x, .int .i64 t] w fun e w' => e = .returned (.tuple #[.int .i64 (v + t * costOf x), .int .i64 0]) ∧ w = w' := by
  have c1 := Lib.hid (cost_yes x w hx)
  have c2 := Lib.hid (ticks_any t w)
  rw [ht] at c2
  obtain ⟨p0, p1⟩ := prod_bd hx ht
  have h2 : ¬ v < 0 := by omega
  have h3 : ¬ 1152921504606846976 < v := by omega
  clear hx ht
  go_enter Try.func7, Try.ntmps7
  go_wp2_with (first
    | (go_at_call 6; (with_reducible refine c1.out.mono ?_); rintro e w' ⟨rfl, rfl⟩)
    | (go_at_call 14; (with_reducible refine c2.out.mono ?_); rintro e w' ⟨rfl, rfl⟩))
  go_ret2
  exact ⟨rfl, rfl⟩

/-- What After must not be asked. -/
def afterBad (v x t : Int) : Bool := !isW x || decide (v < 0) || decide (1152921504606846976 < v) || !isT t

theorem after_no (v x t : Int) (w : World) (h : afterBad v x t = true) :
    Calls Try.prog 7 #[.int .i64 v, .int .i64 x, .int .i64 t] w fun e w' => e = .returned (.tuple #[.int .i64 0, .int .i64 1]) ∧ w = w' := by
  unfold afterBad at h
  cases hx : isW x with
  | false =>
    have c1 := Lib.hid (cost_no x w hx)
    clear h hx
    go_enter Try.func7, Try.ntmps7
    go_wp2_with (go_at_call 6; (with_reducible refine c1.out.mono ?_); rintro e w' ⟨rfl, rfl⟩)
    go_ret2
    exact ⟨rfl, rfl⟩
  | true =>
    have c1 := Lib.hid (cost_yes x w hx)
    by_cases h0 : v < 0
    · clear h hx
      go_enter Try.func7, Try.ntmps7
      go_wp2_with (go_at_call 6; (with_reducible refine c1.out.mono ?_); rintro e w' ⟨rfl, rfl⟩)
      go_ret2
      exact ⟨rfl, rfl⟩
    · by_cases h1 : 1152921504606846976 < v
      · clear h hx
        go_enter Try.func7, Try.ntmps7
        go_wp2_with (go_at_call 6; (with_reducible refine c1.out.mono ?_); rintro e w' ⟨rfl, rfl⟩)
        go_ret2
        exact ⟨rfl, rfl⟩
      · have ht : isT t = false := by
          cases ht : isT t with
          | false => rfl
          | true => rw [hx, ht] at h; simp at h; omega
        have c2 := Lib.hid (ticks_any t w)
        rw [ht] at c2
        clear h hx ht
        go_enter Try.func7, Try.ntmps7
        go_wp2_with (first
          | (go_at_call 6; (with_reducible refine c1.out.mono ?_); rintro e w' ⟨rfl, rfl⟩)
          | (go_at_call 14; (with_reducible refine c2.out.mono ?_); rintro e w' ⟨rfl, rfl⟩))
        go_ret2
        exact ⟨rfl, rfl⟩
end Go.Proofs.Ytbdkibigcjpkbaa.Vt
