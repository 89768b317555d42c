/- Contracts of package pick: New. -/
import Derived.Test.YtpincdcebhmnhaaPkOps
namespace Go.Proofs.Ytpincdcebhmnhaa.Pk
open Go.ChangeShapes Go.WideShapes Go.ChangeAt Go.RowKit Go.Maps
set_option linter.unusedVariables false

theorem new_any (w : World) : Calls Try.prog 7 #[] w fun e w' => ∃ p, e = .returned (.pointer (some ⟨p, 0, none⟩)) ∧ p = w.heap.size ∧ PickAt w' p 64 Pr.noV noS ∧ Only (fun _ => False) w w' := by
  have HZ : Hid (PickAt (w.alloc (.cells Try.zeroCells64 64)) w.heap.size 64 Pr.noV noS) := Lib.hid (zero_at (P := 0) w Try.zeroCells64 (by decide)
    ⟨Nat.le_of_ble_eq_true (by kernel_rfl), Fr.lt17 (by repeat' (first | apply And.intro | kernel_rfl)), Fr.lt17 (by repeat' (first | apply And.intro | kernel_rfl)), Fr.lt17 (by repeat' (first | apply And.intro | kernel_rfl)), Fr.lt17 (by repeat' (first | apply And.intro | kernel_rfl)), Fr.lt9 (by repeat' (first | apply And.intro | kernel_rfl)), Fr.lt9 (by repeat' (first | apply And.intro | kernel_rfl))⟩
    (Pr.lt8 (by repeat' (first | apply And.intro | kernel_rfl)))
    ⟨Nat.le_of_ble_eq_true (by kernel_rfl), De.lt17 (by repeat' (first | apply And.intro | kernel_rfl)), De.lt17 (by repeat' (first | apply And.intro | kernel_rfl)), De.lt17 (by repeat' (first | apply And.intro | kernel_rfl)), De.lt17 (by repeat' (first | apply And.intro | kernel_rfl)), De.lt17 (by repeat' (first | apply And.intro | kernel_rfl)), De.lt17 (by repeat' (first | apply And.intro | kernel_rfl)), by kernel_rfl⟩
    (Fr.lt17 (by repeat' (first | apply And.intro | kernel_rfl))) (Fr.lt17 (by repeat' (first | apply And.intro | kernel_rfl))) (by kernel_rfl) (by kernel_rfl))
  go_enter Try.func7, Try.ntmps7
  go_wp2
  go_ret
  exact ⟨_, rfl, rfl, HZ.out, (Only.refl _ w).alloc _⟩
end Go.Proofs.Ytpincdcebhmnhaa.Pk
