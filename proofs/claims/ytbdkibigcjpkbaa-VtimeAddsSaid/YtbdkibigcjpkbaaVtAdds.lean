/- The walk of VtimeAdds. -/
import Derived.Test.YtbdkibigcjpkbaaVt
import Derived.Test.YtbdkibigcjpkbaaRest
namespace Go.Proofs.Ytbdkibigcjpkbaa.Vt
open Go.ChangeShapes Go.WideShapes Go.ChangeAt Go.RowKit
set_option linter.unusedVariables false

theorem cost_falls {a b : Int} (h0 : 1 ≤ a) (h : a ≤ b) : costOf b ≤ costOf a := by
  unfold costOf
  refine Int.le_ediv_of_mul_le (by omega) ?_
  have h1 : 0 ≤ 1048576 / b := Int.ediv_nonneg (by omega) (by omega)
  have h2 : 1048576 / b * b ≤ 1048576 := Int.ediv_mul_le _ (by omega)
  exact Int.le_trans (Int.mul_le_mul_of_nonneg_left h h1) h2

theorem cost_mul {a : Int} (h0 : 1 ≤ a) : costOf a * a ≤ 1048576 ∧ 1048576 < costOf a * a + a := by
  refine ⟨Int.ediv_mul_le _ (by omega), ?_⟩
  have := Int.lt_ediv_add_one_mul_self 1048576 (show 0 < a by omega)
  rw [Int.add_mul, Int.one_mul] at this
  exact this

theorem isW_rest (k : Int) : isW (1 + restOf k 100) = true := by
  have h1 := restOf_lo k 100 (by omega)
  have h2 := restOf_hi k 100 (by omega)
  exact decide_eq_true ⟨by omega, by omega⟩

set_option maxHeartbeats 1000000 in
set_option maxRecDepth 100000 in
theorem adds_any (v a b m n : Int) (w : World) :
    Calls Try.prog 4 #[.int .i64 v, .int .i64 a, .int .i64 b, .int .i64 m, .int .i64 n] w fun e w' => e = .returned (.bool true) ∧ w = w' := by
  have s0 := Lib.hid (after_yes 5 2 3 w (by decide) (by decide) (by decide) (by decide))
  have e0 : (5 : Int) + 3 * costOf 2 = 1572869 := by decide
  rw [e0] at s0
  have r1 := Lib.hid (rest_any v 1125899906842624 (by omega) (by omega) w)
  have r2 := Lib.hid (rest_any a 100 (by omega) (by omega) w)
  have r3 := Lib.hid (rest_any b 100 (by omega) (by omega) w)
  have r4 := Lib.hid (rest_any m 1048576 (by omega) (by omega) w)
  have r5 := Lib.hid (rest_any n 1048576 (by omega) (by omega) w)
  have v0 := restOf_lo v 1125899906842624 (by omega)
  have v1 := restOf_hi v 1125899906842624 (by omega)
  have a0 := restOf_lo a 100 (by omega)
  have a1 := restOf_hi a 100 (by omega)
  have b0 := restOf_lo b 100 (by omega)
  have b1 := restOf_hi b 100 (by omega)
  have m0 := restOf_lo m 1048576 (by omega)
  have m1 := restOf_hi m 1048576 (by omega)
  have n0 := restOf_lo n 1048576 (by omega)
  have n1 := restOf_hi n 1048576 (by omega)
  have wa := isW_rest a
  have wb := isW_rest b
  generalize restOf v 1125899906842624 = v' at *
  generalize restOf a 100 = a' at *
  generalize restOf b 100 = b' at *
  generalize restOf m 1048576 = m' at *
  generalize restOf n 1048576 = n' at *
  have c1 := Lib.hid (cost_yes (1 + a') w wa)
  have c2 := Lib.hid (cost_yes (1 + b') w wb)
  have tm : isT m' = true := decide_eq_true ⟨by omega, by omega⟩
  have tn : isT n' = true := decide_eq_true ⟨by omega, by omega⟩
  have tmn : isT (m' + n') = true := decide_eq_true ⟨by omega, by omega⟩
  obtain ⟨p0, p1⟩ := prod_bd wa tm
  obtain ⟨q0, q1⟩ := prod_bd wa tn
  have g1 := Lib.hid (after_yes v' (1 + a') m' w wa tm v0 (by omega))
  have g2 := Lib.hid (after_yes (v' + m' * costOf (1 + a')) (1 + a') n' w wa tn (by omega) (by omega))
  have g3 := Lib.hid (after_yes v' (1 + a') (m' + n') w wa tmn v0 (by omega))
  rw [Int.add_mul, ← Int.add_assoc] at g3
  obtain ⟨k0, k1⟩ := costOf_bd wa
  obtain ⟨k2, k3⟩ := costOf_bd wb
  obtain ⟨u0, u1⟩ := cost_mul (a := 1 + a') (by omega)
  have u2 : 0 ≤ costOf (1 + a') * (1 + a') := Int.mul_nonneg k0 (by omega)
  have hf : 1 + b' < 1 + a' ∨ (¬ 1 + b' < 1 + a' ∧ costOf (1 + b') ≤ costOf (1 + a')) := by
    by_cases h : 1 + b' < 1 + a'
    · exact Or.inl h
    · exact Or.inr ⟨h, cost_falls (by omega) (by omega)⟩
  clear tm tn tmn wa wb e0
  generalize m' * costOf (1 + a') = p at *
  generalize n' * costOf (1 + a') = q at *
  generalize costOf (1 + a') = c at *
  generalize costOf (1 + b') = d at *
  rcases hf with hf | ⟨hf, hf2⟩
  all_goals
    go_enter Try.func4, Try.ntmps4
    go_wp2_with (first
      | (go_at_call 7; (with_reducible first | refine s0.out.mono ?_ | refine g1.out.mono ?_ | refine g2.out.mono ?_ | refine g3.out.mono ?_); rintro e w' ⟨rfl, rfl⟩)
      | (go_at_call 11; (with_reducible first | refine r1.out.mono ?_ | refine r2.out.mono ?_ | refine r3.out.mono ?_ | refine r4.out.mono ?_ | refine r5.out.mono ?_); rintro e w' ⟨rfl, rfl⟩)
      | (go_at_call 6; (with_reducible first | refine c1.out.mono ?_ | refine c2.out.mono ?_); rintro e w' ⟨rfl, rfl⟩))
    go_ret
    exact ⟨rfl, rfl⟩
end Go.Proofs.Ytbdkibigcjpkbaa.Vt
