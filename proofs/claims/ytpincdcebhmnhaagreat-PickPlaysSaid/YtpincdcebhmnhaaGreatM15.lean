/- Texts of this claim, merged: OFLess. -/
import Derived.Test.YtpincdcebhmnhaaGreatM14
import Derived.Deep.QuietTactic
import Derived.BigQuiet
/- The reference's of: the ready tasks of a group, who goes first first. -/
namespace Go.Proofs.YtpincdcebhmnhaaGreat.Fr
open Go.ChangeShapes Go.WideShapes Go.ChangeAt Go.RowKit Go.Maps
open Go.Proofs.YtpincdcebhmnhaaGreat.Vt Go.Proofs.YtpincdcebhmnhaaGreat.Pt
set_option linter.unusedVariables false

/-- Who goes first: by times, then by numbers. -/
def goesLt (T : Tks) (f : Nat → Nat) (x y : Nat) : Bool := decide ((T (f x)).v < (T (f y)).v ∨ (T (f x)).v = (T (f y)).v ∧ f x < f y)

theorem swo_goes (T : Tks) (f : Nat → Nat) : Sort.SWO (goesLt T f) where
  irrefl x := by simp [goesLt]
  trans x y z h1 h2 := by simp only [goesLt, decide_eq_true_eq] at *; omega
  ntrans x y z h1 h2 := by simp only [goesLt, decide_eq_false_iff_not] at *; omega

set_option maxRecDepth 100000 in
set_option maxHeartbeats 1000000 in
theorem less_goes (Bo g n c i j bi bj : Nat) (vi vj : Int) (ni nj : Nat) (w : World) (hi : i < n) (hj : j < n) (hn : n ≤ 100)
    (co : w.cell? ⟨Bo, 0, none⟩ = some (.slice (some ⟨g, 0, none⟩) n c)) (ci : w.cell? ⟨g, i, none⟩ = some (pt bi)) (cj : w.cell? ⟨g, j, none⟩ = some (pt bj))
    (ti : w.cell? ⟨bi, 0, none⟩ = some (.int .i64 ni)) (tj : w.cell? ⟨bj, 0, none⟩ = some (.int .i64 nj)) (xi : w.cell? ⟨bi, 3, none⟩ = some (.int .i64 vi)) (xj : w.cell? ⟨bj, 3, none⟩ = some (.int .i64 vj)) :
    Calls Tryz.prog 75 #[.int .i64 i, .int .i64 j, .pointer (some ⟨Bo, 0, none⟩)] w fun e w' => e = .returned (.bool (decide (vi < vj ∨ vi = vj ∧ ni < nj))) ∧ ∃ q, w' = w.drewN q := by
  have g1 : (i : Int) < n := by omega
  have g2 : (j : Int) < n := by omega
  have g3 : (0 : Int) ≤ i := by omega
  have g4 : (0 : Int) ≤ j := by omega
  unfold pt at *
  by_cases hlt : vi < vj
  · have e1 : decide (vi < vj) = true := decide_eq_true hlt
    rw [show decide (vi < vj ∨ vi = vj ∧ ni < nj) = true from decide_eq_true (Or.inl hlt)]
    clear hlt
    go_enter Tryz.func75, Tryz.ntmps75
    go_wp2_with fail
    go_quiet (fail)
    go_wp2_with fail
    go_ret
    exact ⟨rfl, _, rfl⟩
  · have e1 : decide (vi < vj) = false := decide_eq_false hlt
    by_cases heq : vi = vj
    · subst heq
      have e2 : (vi == vi) = true := by simp
      by_cases hn2 : ni < nj
      · have e3 : decide ((ni : Int) < (nj : Int)) = true := decide_eq_true (by omega)
        have e4 : decide (ni < nj) = true := decide_eq_true hn2
        rw [show decide (vi < vi ∨ vi = vi ∧ ni < nj) = true from decide_eq_true (Or.inr ⟨rfl, hn2⟩)]
        clear hlt hn2
        go_enter Tryz.func75, Tryz.ntmps75
        go_wp2_with fail
        go_quiet (fail)
        go_wp2_with fail
        go_ret
        exact ⟨rfl, _, rfl⟩
      · have e3 : decide ((ni : Int) < (nj : Int)) = false := decide_eq_false (by omega)
        have e4 : decide (ni < nj) = false := decide_eq_false hn2
        rw [show decide (vi < vi ∨ vi = vi ∧ ni < nj) = false from decide_eq_false (by omega)]
        clear hlt hn2
        go_enter Tryz.func75, Tryz.ntmps75
        go_wp2_with fail
        go_quiet (fail)
        go_wp2_with fail
        go_ret
        exact ⟨rfl, _, rfl⟩
    · have e2 : (vi == vj) = false := by simp [heq]
      rw [show decide (vi < vj ∨ vi = vj ∧ ni < nj) = false from decide_eq_false (by omega)]
      clear hlt heq
      go_enter Tryz.func75, Tryz.ntmps75
      go_wp2_with fail
      go_quiet (fail)
      go_wp2_with fail
      go_ret
      exact ⟨rfl, _, rfl⟩
end Go.Proofs.YtpincdcebhmnhaaGreat.Fr
