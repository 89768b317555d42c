/- The contracts of the functions that compare: cmp.Compare and cmp.Or at integers. -/
import Derived.Test.YtbfnaejfmpnkbaaMem
namespace Go.Proofs.Ytbfnaejfmpnkbaa
open Go.ChangeShapes Go.WideShapes Go.ChangeAt Go.RowKit
set_option linter.unusedVariables false

/-- What cmp.Compare answers of two numbers. -/
def cmpi (a b : Int) : Int := if a < b then -1 else if b < a then 1 else 0

theorem nan_any (a : Int) (w : World) : Calls Try.prog 47 #[.int .i64 a] w fun e w' => e = .returned (.bool false) ∧ w = w' := by
  go_enter Try.func47, Try.ntmps47
  go_wp2
  go_ret
  simp

theorem compare_any (a b : Int) (w : World) : Calls Try.prog 41 #[.int .i64 a, .int .i64 b] w fun e w' => e = .returned (.int .i64 (cmpi a b)) ∧ w = w' := by
  go_enter Try.func41, Try.ntmps41
  by_cases h1 : a < b
  · go_wp2_with (go_at_call 47; refine (nan_any _ _).mono ?_; rintro e w' ⟨rfl, rfl⟩)
    go_ret
    exact ⟨ret_int (by simp [cmpi, h1]), rfl⟩
  · by_cases h2 : b < a
    · have h3 : ¬ a < b := h1
      go_wp2_with (go_at_call 47; refine (nan_any _ _).mono ?_; rintro e w' ⟨rfl, rfl⟩)
      go_ret
      exact ⟨ret_int (by unfold cmpi; repeat (split <;> try omega)), rfl⟩
    · go_wp2_with (go_at_call 47; refine (nan_any _ _).mono ?_; rintro e w' ⟨rfl, rfl⟩)
      go_ret
      exact ⟨ret_int (by unfold cmpi; repeat (split <;> try omega)), rfl⟩

/-- What cmp.Or answers of two numbers. -/
def orv (a b : Int) : Int := if a = 0 then b else a

set_option maxRecDepth 100000 in
theorem or_any (g : Nat) (a b : Int) (w : World) (h0 : w.cell? ⟨g, 0, none⟩ = some (.int .i64 a)) (h1 : w.cell? ⟨g, 1, none⟩ = some (.int .i64 b)) :
    Calls Try.prog 40 #[.slice (some ⟨g, 0, none⟩) 2 2] w fun e w' => e = .returned (.int .i64 (orv a b)) ∧ w = w' := by
  by_cases ha : a = 0
  · subst ha
    by_cases hb : b = 0
    · subst hb
      go_enter Try.func40, Try.ntmps40
      go_wp2
      refine wp_loop_rounds 3 ?_
      rw [rounds_succ]
      go_wp2
      rw [rounds_succ]
      go_wp2
      rw [rounds_succ]
      go_wp2
      go_ret
      exact ⟨ret_int (by simp [orv]), rfl⟩
    · go_enter Try.func40, Try.ntmps40
      go_wp2
      refine wp_loop_rounds 2 ?_
      rw [rounds_succ]
      go_wp2
      rw [rounds_succ]
      go_wp2
      go_ret
      exact ⟨ret_int (by simp [orv]), rfl⟩
  · go_enter Try.func40, Try.ntmps40
    go_wp2
    refine wp_loop_rounds 1 ?_
    rw [rounds_succ]
    go_wp2
    go_ret
    exact ⟨ret_int (by simp [orv, ha]), rfl⟩

theorem or_made (u : World) (g : Nat) (a b : Int) (hg : u.heap.size = g) :
    Calls Try.prog 40 #[.slice (some ⟨g, 0, none⟩) 2 2] (u.alloc (.cells #[.int .i64 a, .int .i64 b] 3)).drew fun e w' => e = .returned (.int .i64 (orv a b)) ∧ (u.alloc (.cells #[.int .i64 a, .int .i64 b] 3)).drew = w' := by
  subst hg
  have hh : (u.alloc (.cells #[.int .i64 a, .int .i64 b] 3)).drew.heap[u.heap.size]? = some (.cells #[.int .i64 a, .int .i64 b] 3) := heap_alloc_new u _
  exact or_any _ a b _ (by rw [cell_at hh]; rfl) (by rw [cell_at hh]; rfl)

end Go.Proofs.Ytbfnaejfmpnkbaa
