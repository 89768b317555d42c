/- The contracts of the functions that compare: cmp.Compare and cmp.Or at integers. -/
import Derived.Test.YtiodfpoaakcejaaMem
namespace Go.Proofs.Ytiodfpoaakcejaa.Hp
open Go.ChangeShapes Go.WideShapes Go.ChangeAt Go.RowKit
set_option linter.unusedVariables false

/-- What cmp.Compare answers of two numbers. -/
def cmpi (a b : Int) : Int := if a < b then -1 else if b < a then 1 else 0

theorem nan_any (a : Int) (w : World) : Calls Try.prog 78 #[.int .i64 a] w fun e w' => e = .returned (.bool false) ∧ w = w' := by
  go_enter Try.func78, Try.ntmps78
  go_wp2
  go_ret
  simp

theorem compare_any (a b : Int) (w : World) : Calls Try.prog 71 #[.int .i64 a, .int .i64 b] w fun e w' => e = .returned (.int .i64 (cmpi a b)) ∧ w = w' := by
  go_enter Try.func71, Try.ntmps71
  by_cases h1 : a < b
  · go_wp2_with (go_at_call 78; refine (nan_any _ _).mono ?_; rintro e w' ⟨rfl, rfl⟩)
    go_ret
    exact ⟨ret_int (by simp [cmpi, h1]), rfl⟩
  · by_cases h2 : b < a
    · have h3 : ¬ a < b := h1
      go_wp2_with (go_at_call 78; refine (nan_any _ _).mono ?_; rintro e w' ⟨rfl, rfl⟩)
      go_ret
      exact ⟨ret_int (by unfold cmpi; repeat (split <;> try omega)), rfl⟩
    · go_wp2_with (go_at_call 78; refine (nan_any _ _).mono ?_; rintro e w' ⟨rfl, rfl⟩)
      go_ret
      exact ⟨ret_int (by unfold cmpi; repeat (split <;> try omega)), rfl⟩

/-- What cmp.Or answers of two numbers. -/
def orv (a b : Int) : Int := if a = 0 then b else a

set_option maxRecDepth 100000 in
theorem or_any (g : Nat) (a b : Int) (w : World) (h0 : w.cell? ⟨g, 0, none⟩ = some (.int .i64 a)) (h1 : w.cell? ⟨g, 1, none⟩ = some (.int .i64 b)) :
    Calls Try.prog 70 #[.slice (some ⟨g, 0, none⟩) 2 2] w fun e w' => e = .returned (.int .i64 (orv a b)) ∧ w = w' := by
  by_cases ha : a = 0
  · subst ha
    by_cases hb : b = 0
    · subst hb
      go_enter Try.func70, Try.ntmps70
      go_wp2
      refine wp_loop_rounds 3 ?_
      rw [rounds_succ]
      go_wp2
      rw [rounds_succ]
      go_wp2
      rw [rounds_succ]
      go_wp2
      go_ret
      exact ⟨ret_int (by simp [orv]), rfl⟩
    · go_enter Try.func70, Try.ntmps70
      go_wp2
      refine wp_loop_rounds 2 ?_
      rw [rounds_succ]
      go_wp2
      rw [rounds_succ]
      go_wp2
      go_ret
      exact ⟨ret_int (by simp [orv]), rfl⟩
  · go_enter Try.func70, Try.ntmps70
    go_wp2
    refine wp_loop_rounds 1 ?_
    rw [rounds_succ]
    go_wp2
    go_ret
    exact ⟨ret_int (by simp [orv, ha]), rfl⟩

theorem or_made (u : World) (g : Nat) (a b : Int) (hg : u.heap.size = g) :
    Calls Try.prog 70 #[.slice (some ⟨g, 0, none⟩) 2 2] (u.alloc (.cells #[.int .i64 a, .int .i64 b] 3)).drew fun e w' => e = .returned (.int .i64 (orv a b)) ∧ (u.alloc (.cells #[.int .i64 a, .int .i64 b] 3)).drew = w' := by
  subst hg
  have hh : (u.alloc (.cells #[.int .i64 a, .int .i64 b] 3)).drew.heap[u.heap.size]? = some (.cells #[.int .i64 a, .int .i64 b] 3) := heap_alloc_new u _
  exact or_any _ a b _ (by rw [cell_at hh]; rfl) (by rw [cell_at hh]; rfl)

/-- Which of two items comes first. -/
def prec (x y : Int × Int) : Bool := decide (x.2 < y.2 ∨ x.2 = y.2 ∧ x.1 < y.1)

/-- An item as a value. -/
def itemVal (x : Int × Int) : Value := .agg #[.int .i64 x.1, .int .i64 x.2]

theorem orv_prec (x y : Int × Int) : decide (orv (cmpi x.2 y.2) (cmpi x.1 y.1) < 0) = prec x y := by
  unfold prec orv cmpi
  rw [decide_eq_decide]
  repeat (split <;> try omega)

theorem below_boxes (w : World) (a b c : Obj) : Below w.heap.size w (((w.alloc a).alloc b).alloc c).drew :=
  ((((Below.refl _ w).alloc (Nat.le_refl _) _).alloc (by simp) _).alloc (by simp; omega) _).drew

set_option maxRecDepth 100000 in
theorem precedes_any (x y : Int × Int) (w : World) :
    Calls Try.prog 47 #[itemVal x, itemVal y] w fun e w' => e = .returned (.bool (prec x y)) ∧ Below w.heap.size w w' := by
  unfold itemVal
  go_enter Try.func47, Try.ntmps47
  go_wp2_with fail
  go_region_held3 (fun w' => w'.cell? ⟨w.heap.size, 0, none⟩ = some (.int .i64 x.1) ∧ w'.cell? ⟨w.heap.size, 1, none⟩ = some (.int .i64 x.2) ∧ w'.cell? ⟨w.heap.size + 1, 0, none⟩ = some (.int .i64 y.1) ∧ w'.cell? ⟨w.heap.size + 1, 1, none⟩ = some (.int .i64 y.2)) (go_keep)
   (first
    | (go_at_call 71; refine (compare_any _ _ _).mono ?_; rintro e w' ⟨rfl, rfl⟩)
    | (go_at_call 70; refine (or_made _ _ _ _ (by simp)).mono ?_; rintro e w' ⟨rfl, rfl⟩))
  all_goals (generalize hv : decide (orv (cmpi x.2 y.2) (cmpi x.1 y.1) < 0) = v; rw [orv_prec] at hv; subst hv; go_wp2; go_ret; exact ⟨rfl, below_boxes _ _ _ _⟩)
end Go.Proofs.Ytiodfpoaakcejaa.Hp
