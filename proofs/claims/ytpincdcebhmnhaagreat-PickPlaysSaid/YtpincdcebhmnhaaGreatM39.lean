/- Texts of this claim, merged: At. -/
import Derived.Test.YtpincdcebhmnhaaGreatM01
/- The statements' at: a number of a list, 0 if there is none. -/
namespace Go.Proofs.YtpincdcebhmnhaaGreat
open Go.ChangeShapes Go.WideShapes Go.ChangeAt Go.RowKit
set_option linter.unusedVariables false

/-- A number of a list, 0 if there is none. -/
def nth (xs : List Int) (j : Nat) : Int := xs.getD j 0

theorem at_in (a : Addr) (n cap j : Nat) (x : Int) (w : World) (hj : j < n) (hn : n ≤ 9223372036854775807) (hc : w.cell? (a.add j) = some (.int .i64 x)) :
    Calls Tryz.prog 8 #[.slice (some a) n cap, .int .i64 j] w fun e w' => e = .returned (.int .i64 x) ∧ w = w' := by
  have h1 : (j : Int) < n := by omega
  have h2 : (0 : Int) ≤ j := by omega
  go_enter Tryz.func8, Tryz.ntmps8
  go_wp2
  go_ret
  exact ⟨rfl, rfl⟩

theorem at_out (a : Option Addr) (n cap j : Nat) (w : World) (hj : n ≤ j) (hn : n ≤ 9223372036854775807) (hjj : j ≤ 100) :
    Calls Tryz.prog 8 #[.slice a n cap, .int .i64 j] w fun e w' => e = .returned (.int .i64 0) ∧ w = w' := by
  have h1 : ¬ (j : Int) < n := by omega
  go_enter Tryz.func8, Tryz.ntmps8
  go_wp2
  go_ret
  exact ⟨rfl, rfl⟩

theorem at_any {v : Value} {xs : List Int} (j : Nat) (hj : j ≤ 100) {w : World} (h : NumRow w v xs) :
    Calls Tryz.prog 8 #[v, .int .i64 j] w fun e w' => e = .returned (.int .i64 (nth xs j)) ∧ w = w' := by
  obtain ⟨a, c, rfl, h1, h2, h3, h4⟩ := h
  have hm : c ≤ 9223372036854775807 := by unfold maxLen at h2; omega
  by_cases hl : j < xs.length
  · obtain ⟨ad, rfl, hlt, hc⟩ := h3 j hl
    exact at_in ad xs.length c j _ w hl (by omega) hc
  · have : nth xs j = 0 := by simp [nth, List.getD, List.getElem?_eq_none (show xs.length ≤ j by omega)]
    rw [this]
    exact at_out a xs.length c j w (by omega) (by omega) hj

theorem at_0 {v : Value} {xs : List Int} {w : World} (h : NumRow w v xs) : Calls Tryz.prog 8 #[v, .int .i64 0] w fun e w' => e = .returned (.int .i64 (nth xs 0)) ∧ w = w' := at_any 0 (by decide) h
theorem at_1 {v : Value} {xs : List Int} {w : World} (h : NumRow w v xs) : Calls Tryz.prog 8 #[v, .int .i64 1] w fun e w' => e = .returned (.int .i64 (nth xs 1)) ∧ w = w' := at_any 1 (by decide) h
theorem at_2 {v : Value} {xs : List Int} {w : World} (h : NumRow w v xs) : Calls Tryz.prog 8 #[v, .int .i64 2] w fun e w' => e = .returned (.int .i64 (nth xs 2)) ∧ w = w' := at_any 2 (by decide) h
theorem at_3 {v : Value} {xs : List Int} {w : World} (h : NumRow w v xs) : Calls Tryz.prog 8 #[v, .int .i64 3] w fun e w' => e = .returned (.int .i64 (nth xs 3)) ∧ w = w' := at_any 3 (by decide) h
theorem at_4 {v : Value} {xs : List Int} {w : World} (h : NumRow w v xs) : Calls Tryz.prog 8 #[v, .int .i64 4] w fun e w' => e = .returned (.int .i64 (nth xs 4)) ∧ w = w' := at_any 4 (by decide) h

theorem ArgRows.later {w w' : World} {a : Option Addr} {len cap : Nat} {recs : List (List Int)} (h : ArgRows w a len cap recs) (hb : Below w.heap.size w w') : ArgRows w' a len cap recs := by
  obtain ⟨h1, h2, h3, h4, h5⟩ := h
  refine ⟨h1, h2, h3, h4, fun j hj => ?_⟩
  obtain ⟨b, off, v, rfl, q1, q2, q3⟩ := h5 j hj
  exact ⟨b, off, v, rfl, Nat.lt_of_lt_of_le q1 hb.size, (hb.cell (p := ⟨b, off + j, none⟩) q1).trans q2, q3.later hb⟩
end Go.Proofs.YtpincdcebhmnhaaGreat
