/- The contract of the reference's Far: by numbers of 64 bits. -/
import Derived.Test.YtiodfpoaakcejaaFar
import Derived.IntWalk
namespace Go.Proofs.Ytiodfpoaakcejaa
open Go.ChangeShapes Go.WideShapes Go.ChangeAt Go.RowKit
set_option linter.unusedVariables false

theorem ref_far (a b : Int) (ha : 0 ≤ a ∧ a < 4294967296) (hb : 0 ≤ b ∧ b < 4294967296) (w : World) :
    Calls Try.prog 14 #[.int .u32 a, .int .u32 b] w fun e w' => e = .returned (.int .i64 (dist a b)) ∧ w' = w := by
  have e1 : wrap64 a = a := IntWalk.wrap64_in _ (by omega)
  have e2 : wrap64 b = b := IntWalk.wrap64_in _ (by omega)
  obtain ⟨a0, a1⟩ := ha
  obtain ⟨b0, b1⟩ := hb
  go_enter Try.func14, Try.ntmps14
  go_wp2
  go_loop [5, 11, 12, 13, 14] (fun t u11 u12 u13 u14 => ∃ d : Int, t = .int .i64 d ∧ -4294967296 < d ∧ d < 4294967296 ∧ (d + 8589934592) % 4294967296 = (b - a + 8589934592) % 4294967296) (fun t _ _ _ _ => (4294967296 - intOf t).toNat)
  case atStart => exact ⟨b - a, rfl, by omega, by omega, rfl⟩
  case round =>
    obtain ⟨d, rfl, h1, h2, h3⟩ := hrel
    have H3 := Lib.hid h3
    clear h3
    by_cases hd : d < -2147483648
    · go_wp2
      go_round
      case rel => exact ⟨d + 4294967296, rfl, by omega, by omega, by have := H3.out; omega⟩
      case measure => simp [intOf]; omega
    · go_wp2
      go_loop [5, 15, 16, 17, 18] (fun t u15 u16 u17 u18 => ∃ d : Int, t = .int .i64 d ∧ -2147483648 ≤ d ∧ d < 4294967296 ∧ (d + 8589934592) % 4294967296 = (b - a + 8589934592) % 4294967296) (fun t _ _ _ _ => (4294967296 + intOf t).toNat)
      case atStart => exact ⟨d, rfl, by omega, by omega, H3.out⟩
      case round =>
        obtain ⟨d, rfl, h1, h2, h3⟩ := hrel
        have H3 := Lib.hid h3
        clear h3
        by_cases hd : d < 2147483648
        · go_wp2
          go_ret
          exact ⟨ret_int (by have := H3.out; show d = _; unfold dist; omega), rfl⟩
        · go_wp2
          go_round
          case rel => exact ⟨d - 4294967296, rfl, by omega, by omega, by have := H3.out; omega⟩
          case measure => simp [intOf]; omega

theorem ref_far_is (a b d : Int) (ha : 0 ≤ a ∧ a < 4294967296) (hb : 0 ≤ b ∧ b < 4294967296) (hd : dist a b = d) (w : World) :
    Calls Try.prog 14 #[.int .u32 a, .int .u32 b] w fun e w' => e = .returned (.int .i64 d) ∧ w' = w := by
  subst hd; exact ref_far a b ha hb w

theorem dist_mod2 (n a : Int) : dist n (a % 4294967296) = dist n a := by unfold dist; omega
end Go.Proofs.Ytiodfpoaakcejaa
